/-
  FnExactPulsesValid: for every argument the exact law of PulsesValid returns true and writes nothing that was there. No condition.
-/
import Derived.Test.YtnloejcfakcpfaaImp14c
import Derived.Test.YtnloejcfakcpfaaShpA
import Derived.Test.YtnloejcfakcpfaaShpLaws
import Derived.Test.YtnloejcfakcpfaaShpX
import Derived.Test.YtnloejcfakcpfaaShut
namespace Go.Proofs.Ytnloejcfakcpfaa
open Go.RowKit Go.ChangeShapes Go.WideShapes Go.ChangeAt

set_option maxRecDepth 100000 in
set_option maxHeartbeats 8000000 in
theorem walk_FnExactPulsesValid {A0 : Option Addr} {n0 c0 : Nat} {zs0 : List Duo} {w : World} (h0 : HasD w A0 n0 zs0) (_ : I64D zs0) (hc0 : n0 ≤ c0 ∧ c0 ≤ maxLen) :
    Calls Try.prog 10 #[.slice A0 n0 c0] w fun e w' => e = .returned (.bool true) ∧ Below w.heap.size w w' := by
  have hm0 : n0 ≤ 9223372036854775807 := Nat.le_trans hc0.1 (Nat.le_trans hc0.2 (by unfold maxLen; omega))
  obtain ⟨R, hR⟩ : ∃ R, decide (pulOk zs0) = R := ⟨_, rfl⟩
  have bB : (R != R) = false := by simp
  clear hc0
  have SZ0 := Lib.hid (szPulseS_any (A := A0) (n := n0) (c := c0) (w := w) (L := 1048576) rfl hm0)
  by_cases hn0 : n0 ≤ 1048576
  rotate_left
  · rw [if_neg hn0] at SZ0
    go_enter Try.func10, Try.ntmps10
    go_wp2_with (fail)
    refine SZ0.out.mono ?_
    rintro e w' ⟨rfl, rfl⟩
    go_wp2
    go_ret
    exact ⟨rfl, Below.refl _ _⟩
  rw [if_pos hn0] at SZ0
  have zB0 : decide ((1048576 : Int) - (n0 : Int) < 0) = false := by simp; omega
  go_enter Try.func10, Try.ntmps10
  go_wp2_with (fail)
  refine SZ0.out.mono ?_
  rintro e w' ⟨rfl, rfl⟩
  go_wp2_with (fail)
  refine (toPulseS_any (h0.bel (Below.refl _ _)) (by omega)).mono ?_
  rintro e w1 ⟨Ap0, ccp0, rfl, O1, B1⟩
  have S1 : w.heap.size ≤ w1.heap.size := B1.size
  have C1 := B1
  have bp0 : ∀ a, Ap0 = some a → w.heap.size ≤ a.block ∧ a.block < w1.heap.size := fun a ha => by subst ha; exact World.ownsRow.lt O1 a.block rfl
  go_wp2_with (fail)
  refine (specPulsesValid_b O1.has (by omega) hR).mono ?_
  rintro e w2 ⟨rfl, B2⟩
  have S2 : w1.heap.size ≤ w2.heap.size := B2.size
  have C2 := bel_trans C1 B2
  have p0_2 := O1.bel B2
  go_wp2_with (fail)
  refine (toPulseS_any (h0.bel C2) (by omega)).mono ?_
  rintro e w3 ⟨Ax0, ccx0, rfl, O3, B3⟩
  have S3 : w2.heap.size ≤ w3.heap.size := B3.size
  have C3 := bel_trans C2 B3
  have bx0 : ∀ a, Ax0 = some a → w2.heap.size ≤ a.block ∧ a.block < w3.heap.size := fun a ha => by subst ha; exact World.ownsRow.lt O3 a.block rfl
  go_wp2_with (fail)
  refine (implPulsesValid_b O3.has (by omega) hR).mono ?_
  rintro e w4 ⟨rfl, B4⟩
  have S4 : w3.heap.size ≤ w4.heap.size := B4.size
  have C4 := bel_trans C3 B4
  have x0_4 := O3.bel B4
  go_wp2_with (fail)
  refine (toPulseS_any (h0.bel C4) (by omega)).mono ?_
  rintro e w5 ⟨Ay0, ccy0, rfl, O5, B5⟩
  have S5 : w4.heap.size ≤ w5.heap.size := B5.size
  have C5 := bel_trans C4 B5
  have x0_5 := x0_4.bel B5
  have by0 : ∀ a, Ay0 = some a → w4.heap.size ≤ a.block ∧ a.block < w5.heap.size := fun a ha => by subst ha; exact World.ownsRow.lt O5 a.block rfl
  go_wp2_with (fail)
  refine (eqPulseS_same x0_5.has O5.has (by omega)).mono ?_
  rintro e w6 ⟨rfl, B6⟩
  have S6 : w5.heap.size ≤ w6.heap.size := B6.size
  have C6 := bel_trans C5 B6
  have x0_6 := x0_5.bel B6
  have y0_6 := O5.bel B6
  go_wp2
  go_ret
  exact ⟨rfl, C6⟩
set_option maxRecDepth 100000 in
theorem lifted_FnExactPulsesValid (os : Os) (started : os.Started) (H : Type) (enc : TypeId × Value → H) :
    ReturnsInHanded {} Try.checked os 10 .any (Rows.fnExactPulsesValidSpec.pre6 enc Try.prog Try.f10 Rows.fnExactPulsesValidRow.domain false) (Rows.fnExactPulsesValidSpec.post enc Try.prog Try.f10 false true false false) := by
  refine returnsInHanded_of_change (C := Try.checked) (by kernel_rfl) started (by kernel_rfl) Try.func10
    (ChangeSpec.witness6 (enc := enc) (C := Try.checked) false ⟨#[], #[.slice none 0 0], []⟩ 8 (by kernel_rfl) (by kernel_rfl) (by kernel_rfl) (by kernel_rfl)) ?_
  intro W base args ds gs before hval0 hW hcnd _
  have hval : ∀ (j : Nat) t v, Try.f10.params[j]? = some t → args[j]? = some v → Value.okWide Try.prog W .any base t v := hval0
  have hW' := hW
  obtain ⟨p, q, hA0, hV, rfl, hfz, hnd⟩ := hW
  have hA : DataW.TrodAll enc Try.prog W 0 (fun _ => true) true Try.f10.params.toList args.toList ds p := hA0
  rw [Try.params10] at hA hval
  obtain ⟨v0, vs0, d0, ds0, p0, q0, hargs, rfl, rfl, h0, r0⟩ := trodAll_cons hA
  obtain ⟨rfl, rfl, rfl⟩ := trodAll_nil r0
  obtain rfl : args = #[v0] := by cases args; simp_all
  obtain ⟨rfl, rfl⟩ := trodVars_none hV
  obtain ⟨a0, len0, cap0, rfl⟩ := okWide_slice Try.underlying43 (hval 0 43 v0 rfl rfl)
  have k0 := h0
  have lt0 : ∀ x ∈ p0, x.block < W.heap.size := by obtain ⟨m, hm⟩ := k0; exact DataW.trod_lt m _ _ _ hm
  obtain ⟨z0, H0, U0, M0⟩ := hasD_of_trod Try.underlying43 Try.underlying72 (by kernel_rfl) (by kernel_rfl) Try.underlying3 Try.underlying3 h0
  clear hA0 hval0
  refine (walk_FnExactPulsesValid H0 U0 M0).mono fun e W' ⟨he, bel⟩ => ?_
  subst he
  exact ⟨_, rfl, _, _, _, [], _, [], hW', trodAll_mk1 (shut_bool Try.underlying4 _), (trodAll_cons_mk (Below.trod (by kernel_rfl) (by kernel_rfl) (of_decide_eq_true (by kernel_rfl)) k0 bel lt0) trodAll_mk0), rfl, bel.frame _, fun h => by cases h⟩

theorem fnExactPulsesValid_holds : Rows.FnExactPulsesValidSaid :=
  OpenClaim.holds_of_wide 10 Try.f10 rfl rfl rfl rfl rfl rfl rfl ⟨rfl, rfl, rfl, rfl, rfl⟩ rfl rfl rfl rfl rfl (by kernel_rfl) Try.func10
    (by unfold joinedFacts; with_reducible refine Bool.and_eq_true_iff.2 ⟨?_, (by as_aux_lemma => kernel_rfl)⟩; with_reducible refine Bool.and_eq_true_iff.2 ⟨?_, (by as_aux_lemma => kernel_rfl)⟩; with_reducible refine Bool.and_eq_true_iff.2 ⟨?_, (by as_aux_lemma => kernel_rfl)⟩; with_reducible refine Bool.and_eq_true_iff.2 ⟨?_, (by as_aux_lemma => kernel_rfl)⟩; with_reducible refine Bool.and_eq_true_iff.2 ⟨?_, (by with_unfolding_all exact shutMake)⟩; with_reducible refine Bool.and_eq_true_iff.2 ⟨?_, (by with_unfolding_all exact shutLifts)⟩; with_reducible refine Bool.and_eq_true_iff.2 ⟨?_, shutEnter⟩; (repeat (with_reducible refine Bool.and_eq_true_iff.2 ⟨?_, (by as_aux_lemma => kernel_rfl)⟩)); as_aux_lemma => kernel_rfl)
    (of_decide_eq_true (by kernel_rfl)) (by unfold Func.isWrapper; first | (rw [if_pos (by decide +kernel)]; kernel_rfl) | (rw [if_neg (by decide +kernel)]; exact ⟨rfl, rfl⟩))
    (fun os started H enc _ => lifted_FnExactPulsesValid os started H enc)
end Go.Proofs.Ytnloejcfakcpfaa
