/-
  FnExactVPortsValid: for every argument the exact law of VPortsValid returns true and writes nothing that was there. No condition.
-/
import Derived.Test.YtiokieancjigeaaVlanL
import Derived.Test.YtiokieancjigeaaImp10c
import Derived.Test.YtiokieancjigeaaShut
namespace Go.Proofs.Ytiokieancjigeaa
open Go.RowKit Go.ChangeShapes Go.WideShapes Go.ChangeAt

set_option maxRecDepth 100000 in
set_option maxHeartbeats 8000000 in
theorem walk_FnExactVPortsValid {A0 : Option Addr} {n0 c0 : Nat} {ps : List Port}  {w : World} (h0 : HasP w A0 n0 ps) (hmax : MaxP ps) (hc : n0 ≤ c0 ∧ c0 ≤ maxLen)  :
    Calls Try.prog 9 #[.slice A0 n0 c0] w fun e w' => e = .returned (.bool true) ∧ Below w.heap.size w w' := by
  have hn9 : n0 ≤ 9223372036854775807 := Nat.le_trans hc.1 (Nat.le_trans hc.2 (by unfold maxLen; omega))
  obtain ⟨R, hR⟩ : ∃ R, decide (psOk ps) = R := ⟨_, rfl⟩
  have bB : (R != R) = false := by simp
  clear hc
  go_enter Try.func9, Try.ntmps9
  go_wp2_with (fail)
  refine (szVPortS_any h0 hn9 hmax).mono ?_
  rintro e w1 ⟨v, rfl, v0, v1, HV, B1⟩
  have S1 : w.heap.size ≤ w1.heap.size := B1.size
  have C1 := B1
  by_cases hv : v < 0
  · have vB : decide (v < 0) = true := by simp; omega
    clear hv v0 v1
    go_wp2
    go_ret
    exact ⟨rfl, C1⟩
  have vB : decide (v < 0) = false := by simp; omega
  obtain ⟨hn, hs⟩ := HV.out (by omega)
  have hl := hs.lenP
  clear hv v0 v1 HV
  go_wp2_with (fail)
  refine (toVPortS_any (h0.bel C1) (by omega) hl).mono ?_
  rintro e w2 ⟨pv2, rfl, O2, B2⟩
  have S2 : w1.heap.size ≤ w2.heap.size := B2.size
  have C2 := bel_trans C1 B2
  have L2 : w1.heap.size < w2.heap.size := (O2.row rfl).2
  go_wp2_with (fail)
  refine (specVPortsValid_b O2.has (by omega) hl hR).mono ?_
  rintro e w3 ⟨rfl, B3⟩
  have S3 : w2.heap.size ≤ w3.heap.size := B3.size
  have C3 := bel_trans C2 B3
  have p_3 := O2.bel B3
  go_wp2_with (fail)
  refine (toVPortS_any (h0.bel C3) (by omega) hl).mono ?_
  rintro e w4 ⟨pv4, rfl, O4, B4⟩
  have S4 : w3.heap.size ≤ w4.heap.size := B4.size
  have C4 := bel_trans C3 B4
  have L4 : w3.heap.size < w4.heap.size := (O4.row rfl).2
  go_wp2_with (fail)
  refine (implVPortsValid_b O4.has (by omega) hl hR).mono ?_
  rintro e w5 ⟨rfl, B5⟩
  have S5 : w4.heap.size ≤ w5.heap.size := B5.size
  have C5 := bel_trans C4 B5
  have x_5 := O4.bel B5
  go_wp2_with (fail)
  refine (toVPortS_any (h0.bel C5) (by omega) hl).mono ?_
  rintro e w6 ⟨pv6, rfl, O6, B6⟩
  have S6 : w5.heap.size ≤ w6.heap.size := B6.size
  have C6 := bel_trans C5 B6
  have x_6 := x_5.bel B6
  have L6 : w5.heap.size < w6.heap.size := (O6.row rfl).2
  go_wp2_with (fail)
  refine (eqVPortS_same x_6.has O6.has (by omega) hl).mono ?_
  rintro e w7 ⟨rfl, B7⟩
  have S7 : w6.heap.size ≤ w7.heap.size := B7.size
  have C7 := bel_trans C6 B7
  have x_7 := x_6.bel B7
  have y_7 := O6.bel B7
  go_wp2
  go_ret
  exact ⟨rfl, C7⟩
set_option maxRecDepth 100000 in
theorem lifted_FnExactVPortsValid (os : Os) (started : os.Started) (H : Type) (enc : TypeId × Value → H) :
    ReturnsInHanded {} Try.checked os 9 .any (Rows.fnExactVPortsValidSpec.pre6 enc Try.prog Try.f9 Rows.fnExactVPortsValidRow.domain false) (Rows.fnExactVPortsValidSpec.post enc Try.prog Try.f9 false true false false) := by
  refine returnsInHanded_of_change (C := Try.checked) (by kernel_rfl) started (by kernel_rfl) Try.func9
    (ChangeSpec.witness6 (enc := enc) (C := Try.checked) false ⟨#[], #[.slice none 0 0], []⟩ 8 (by kernel_rfl) (by kernel_rfl) (by kernel_rfl) (by kernel_rfl)) ?_
  intro W base args ds gs before hval0 hW hcnd _
  have hval : ∀ (j : Nat) t v, Try.f9.params[j]? = some t → args[j]? = some v → Value.okWide Try.prog W .any base t v := hval0
  have hW' := hW
  obtain ⟨p, q, hA0, hV, rfl, hfz, hnd⟩ := hW
  have hA : DataW.TrodAll enc Try.prog W 0 (fun _ => true) true Try.f9.params.toList args.toList ds p := hA0
  rw [Try.params9] at hA hval
  obtain ⟨v0, vs0, d0, ds0, p0, q0, hargs, rfl, rfl, h0, r0⟩ := trodAll_cons hA
  obtain ⟨rfl, rfl, rfl⟩ := trodAll_nil r0
  obtain rfl : args = #[v0] := by cases args; simp_all
  obtain ⟨rfl, rfl⟩ := trodVars_none hV
  obtain ⟨a0, len0, cap0, rfl⟩ := okWide_slice Try.underlying43 (hval 0 43 v0 rfl rfl)
  have k0 := h0
  have lt0 : ∀ x ∈ p0, x.block < W.heap.size := by obtain ⟨m, hm⟩ := k0; exact DataW.trod_lt m _ _ _ hm
  obtain ⟨z0, H0, U0, M0⟩ := hasP_of_trod Try.underlying43 Try.underlying48 (by kernel_rfl) (by kernel_rfl) Try.underlying3 Try.underlying3 Try.underlying23 Try.underlying3 (by kernel_rfl) h0
  clear hA0 hval0
  refine (walk_FnExactVPortsValid H0 U0 M0).mono fun e W' ⟨he, bel⟩ => ?_
  subst he
  exact ⟨_, rfl, _, _, _, [], _, [], hW', trodAll_mk1 (shut_bool Try.underlying4 _), (trodAll_cons_mk (Below.trod (by kernel_rfl) (by kernel_rfl) (of_decide_eq_true (by kernel_rfl)) k0 bel lt0) trodAll_mk0), rfl, bel.frame _, fun h => by cases h⟩

theorem fnExactVPortsValid_holds : Rows.FnExactVPortsValidSaid :=
  OpenClaim.holds_of_wide 9 Try.f9 rfl rfl rfl rfl rfl rfl rfl ⟨rfl, rfl, rfl, rfl, rfl⟩ rfl rfl rfl rfl rfl (by kernel_rfl) Try.func9
    (by unfold joinedFacts; with_reducible refine Bool.and_eq_true_iff.2 ⟨?_, (by as_aux_lemma => kernel_rfl)⟩; with_reducible refine Bool.and_eq_true_iff.2 ⟨?_, (by as_aux_lemma => kernel_rfl)⟩; with_reducible refine Bool.and_eq_true_iff.2 ⟨?_, (by as_aux_lemma => kernel_rfl)⟩; with_reducible refine Bool.and_eq_true_iff.2 ⟨?_, (by as_aux_lemma => kernel_rfl)⟩; with_reducible refine Bool.and_eq_true_iff.2 ⟨?_, (by with_unfolding_all exact shutMake)⟩; with_reducible refine Bool.and_eq_true_iff.2 ⟨?_, (by with_unfolding_all exact shutLifts)⟩; with_reducible refine Bool.and_eq_true_iff.2 ⟨?_, shutEnter⟩; (repeat (with_reducible refine Bool.and_eq_true_iff.2 ⟨?_, (by as_aux_lemma => kernel_rfl)⟩)); as_aux_lemma => kernel_rfl)
    (of_decide_eq_true (by kernel_rfl)) (by unfold Func.isWrapper; first | (rw [if_pos (by decide +kernel)]; kernel_rfl) | (rw [if_neg (by decide +kernel)]; exact ⟨rfl, rfl⟩))
    (fun os started H enc _ => lifted_FnExactVPortsValid os started H enc)
end Go.Proofs.Ytiokieancjigeaa
