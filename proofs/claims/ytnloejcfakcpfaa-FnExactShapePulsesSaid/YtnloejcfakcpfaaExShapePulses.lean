/-
  FnExactShapePulses: for every argument the exact law of ShapePulses returns true and writes nothing that was there. No condition.
-/
import Derived.Test.YtnloejcfakcpfaaImp14e
import Derived.Test.YtnloejcfakcpfaaShpC
import Derived.Test.YtnloejcfakcpfaaShpLaws
import Derived.Test.YtnloejcfakcpfaaShpX
import Derived.Test.YtnloejcfakcpfaaShut
namespace Go.Proofs.Ytnloejcfakcpfaa
open Go.RowKit Go.ChangeShapes Go.WideShapes Go.ChangeAt

set_option maxRecDepth 100000 in
set_option maxHeartbeats 8000000 in
theorem walk_FnExactShapePulses {a0 : Int} {a1 : Int} {A2 : Option Addr} {n2 c2 : Nat} {zs2 : List Duo} {w : World} (_ : -9223372036854775808 ≤ a0 ∧ a0 ≤ 9223372036854775807) (_ : -9223372036854775808 ≤ a1 ∧ a1 ≤ 9223372036854775807) (h2 : HasD w A2 n2 zs2) (_ : I64D zs2) (hc2 : n2 ≤ c2 ∧ c2 ≤ maxLen) :
    Calls Try.prog 13 #[.int .i64 a0, .int .i64 a1, .slice A2 n2 c2] w fun e w' => e = .returned (.bool true) ∧ Below w.heap.size w w' := by
  have hm2 : n2 ≤ 9223372036854775807 := Nat.le_trans hc2.1 (Nat.le_trans hc2.2 (by unfold maxLen; omega))
  obtain ⟨R, hR⟩ : ∃ R, shpI a0 a1 zs2 = R := ⟨_, rfl⟩
  have hRl : R.length ≤ 1000 := by rw [← hR]; have := shp_few a0 a1 zs2; omega
  clear hc2
  have SZ2 := Lib.hid (szPulseS_any (A := A2) (n := n2) (c := c2) (w := w) (L := 1048576) rfl hm2)
  by_cases hn2 : n2 ≤ 1048576
  rotate_left
  · rw [if_neg hn2] at SZ2
    go_enter Try.func13, Try.ntmps13
    go_wp2_with (fail)
    refine SZ2.out.mono ?_
    rintro e w' ⟨rfl, rfl⟩
    go_wp2
    go_ret
    exact ⟨rfl, Below.refl _ _⟩
  rw [if_pos hn2] at SZ2
  have zB2 : decide ((1048576 : Int) - (n2 : Int) < 0) = false := by simp; omega
  go_enter Try.func13, Try.ntmps13
  go_wp2_with (fail)
  refine SZ2.out.mono ?_
  rintro e w' ⟨rfl, rfl⟩
  go_wp2_with (fail)
  refine (toPulseS_any (h2.bel (Below.refl _ _)) (by omega)).mono ?_
  rintro e w1 ⟨Ap2, ccp2, rfl, O1, B1⟩
  have S1 : w.heap.size ≤ w1.heap.size := B1.size
  have C1 := B1
  have bp2 : ∀ a, Ap2 = some a → w.heap.size ≤ a.block ∧ a.block < w1.heap.size := fun a ha => by subst ha; exact World.ownsRow.lt O1 a.block rfl
  go_wp2_with (fail)
  refine (specShapePulses_r O1.has (by omega) hR).mono ?_
  rintro e w2 ⟨AW, nW, cW, rfl, O2, B2⟩
  have S2 : w1.heap.size ≤ w2.heap.size := B2.size
  have C2 := bel_trans C1 B2
  have p2_2 := O1.bel B2
  have bW : ∀ a, AW = some a → w1.heap.size ≤ a.block ∧ a.block < w2.heap.size := fun a ha => by subst ha; exact World.ownsRow.lt O2 a.block rfl
  have hnW : nW ≤ 1000 := by have q1 := O2.has.len; omega
  go_wp2_with (fail)
  refine (toPulseS_any (h2.bel C2) (by omega)).mono ?_
  rintro e w3 ⟨Ax2, ccx2, rfl, O3, B3⟩
  have S3 : w2.heap.size ≤ w3.heap.size := B3.size
  have C3 := bel_trans C2 B3
  have W_3 := O2.bel B3
  have bx2 : ∀ a, Ax2 = some a → w2.heap.size ≤ a.block ∧ a.block < w3.heap.size := fun a ha => by subst ha; exact World.ownsRow.lt O3 a.block rfl
  go_wp2_with (fail)
  refine (implShapePulses_r O3.has (by omega) hR).mono ?_
  rintro e w4 ⟨AG, nG, cG, rfl, O4, B4⟩
  have S4 : w3.heap.size ≤ w4.heap.size := B4.size
  have C4 := bel_trans C3 B4
  have W_4 := W_3.bel B4
  have x2_4 := O3.bel B4
  have bG : ∀ a, AG = some a → w3.heap.size ≤ a.block ∧ a.block < w4.heap.size := fun a ha => by subst ha; exact World.ownsRow.lt O4 a.block rfl
  have hnG : nG ≤ 1000 := by have q1 := O4.has.len; omega
  go_wp2_with (fail)
  refine (eqIntS_b (c := cG) (c' := cW) O4.has W_4.has (by omega)).mono ?_
  rintro e w5 ⟨rfl, B5⟩
  have S5 : w4.heap.size ≤ w5.heap.size := B5.size
  have C5 := bel_trans C4 B5
  have W_5 := W_4.bel B5
  have x2_5 := x2_4.bel B5
  have G_5 := O4.bel B5
  go_wp2_with (fail)
  refine (toPulseS_any (h2.bel C5) (by omega)).mono ?_
  rintro e w6 ⟨Ay2, ccy2, rfl, O6, B6⟩
  have S6 : w5.heap.size ≤ w6.heap.size := B6.size
  have C6 := bel_trans C5 B6
  have W_6 := W_5.bel B6
  have x2_6 := x2_5.bel B6
  have G_6 := G_5.bel B6
  have by2 : ∀ a, Ay2 = some a → w5.heap.size ≤ a.block ∧ a.block < w6.heap.size := fun a ha => by subst ha; exact World.ownsRow.lt O6 a.block rfl
  go_wp2_with (fail)
  refine (eqPulseS_same x2_6.has O6.has (by omega)).mono ?_
  rintro e w7 ⟨rfl, B7⟩
  have S7 : w6.heap.size ≤ w7.heap.size := B7.size
  have C7 := bel_trans C6 B7
  have W_7 := W_6.bel B7
  have x2_7 := x2_6.bel B7
  have G_7 := G_6.bel B7
  have y2_7 := O6.bel B7
  go_wp2_with (fail)
  refine (markPulseS_any (K := 1) x2_7 (by omega) (by omega)).mono ?_
  rintro e w8 ⟨rfl, M8⟩
  have S8 : w7.heap.size ≤ w8.heap.size := M8.size
  have N8 : w7.grownBy w8 (Ax2.map (·.block)) := M8
  have C8 := bel_grown C7 N8 (fun ad ha => by have := bx2 ad ha; omega)
  have W_8 := W_7.keep N8 (fun a ha b hb => by have h1 := bW a ha; have h2 := bx2 b hb; omega)
  have G_8 := G_7.keep N8 (fun a ha b hb => by have h1 := bG a ha; have h2 := bx2 b hb; omega)
  have kB : decide (((1 + 2 * n2 : Nat) : Int) < 0) = false := decide_eq_false (by omega)
  have kC : decide (1 + 2 * (n2 : Int) < (0 : Int)) = false := decide_eq_false (by omega)
  go_wp2_with (fail)
  refine (eqIntS_b (c := cG) (c' := cW) G_8.has W_8.has (by omega)).mono ?_
  rintro e w9 ⟨rfl, B9⟩
  have S9 : w8.heap.size ≤ w9.heap.size := B9.size
  have C9 := bel_trans C8 B9
  have W_9 := W_8.bel B9
  have G_9 := G_8.bel B9
  go_wp2_with (fail)
  refine (markIntS_any (K := 1) G_9 (by omega) (by omega)).mono ?_
  rintro e w10 ⟨rfl, Gm, M10⟩
  have S10 : w9.heap.size ≤ w10.heap.size := M10.size
  have N10 : w9.grownBy w10 (AG.map (·.block)) := M10
  have C10 := bel_grown C9 N10 (fun ad ha => by have := bG ad ha; omega)
  have W_10 := W_9.keep N10 (fun a ha b hb => by have h1 := bW a ha; have h2 := bG b hb; omega)
  go_wp2_with (fail)
  refine (heldIntS_any (c := cG) (K := 1) Gm.has (by omega) (by omega)).mono ?_
  rintro e w' ⟨rfl, rfl⟩
  go_wp2_with (fail)
  refine (toPulseS_any (h2.bel C10) (by omega)).mono ?_
  rintro e w11 ⟨Az2, ccz2, rfl, O11, B11⟩
  have S11 : w10.heap.size ≤ w11.heap.size := B11.size
  have C11 := bel_trans C10 B11
  have W_11 := W_10.bel B11
  have G_11 := Gm.bel B11
  have bz2 : ∀ a, Az2 = some a → w10.heap.size ≤ a.block ∧ a.block < w11.heap.size := fun a ha => by subst ha; exact World.ownsRow.lt O11 a.block rfl
  go_wp2_with (fail)
  refine (implShapePulses_r O11.has (by omega) hR).mono ?_
  rintro e w12 ⟨AH, nH, cH, rfl, O12, B12⟩
  have S12 : w11.heap.size ≤ w12.heap.size := B12.size
  have C12 := bel_trans C11 B12
  have W_12 := W_11.bel B12
  have G_12 := G_11.bel B12
  have z2_12 := O11.bel B12
  have bH : ∀ a, AH = some a → w11.heap.size ≤ a.block ∧ a.block < w12.heap.size := fun a ha => by subst ha; exact World.ownsRow.lt O12 a.block rfl
  have hnH : nH ≤ 1000 := by have q1 := O12.has.len; omega
  go_wp2_with (fail)
  refine (eqIntS_b (c := cH) (c' := cW) O12.has W_12.has (by omega)).mono ?_
  rintro e w13 ⟨rfl, B13⟩
  have S13 : w12.heap.size ≤ w13.heap.size := B13.size
  have C13 := bel_trans C12 B13
  have W_13 := W_12.bel B13
  have G_13 := G_12.bel B13
  have H_13 := O12.bel B13
  go_wp2_with (fail)
  refine (heldIntS_any (c := cG) (K := 1) G_13.has (by omega) (by omega)).mono ?_
  rintro e w' ⟨rfl, rfl⟩
  go_wp2
  go_ret
  exact ⟨rfl, C13⟩
set_option maxRecDepth 100000 in
theorem lifted_FnExactShapePulses (os : Os) (started : os.Started) (H : Type) (enc : TypeId × Value → H) :
    ReturnsInHanded {} Try.checked os 13 .any (Rows.fnExactShapePulsesSpec.pre6 enc Try.prog Try.f13 Rows.fnExactShapePulsesRow.domain false) (Rows.fnExactShapePulsesSpec.post enc Try.prog Try.f13 false true false false) := by
  refine returnsInHanded_of_change (C := Try.checked) (by kernel_rfl) started (by kernel_rfl) Try.func13
    (ChangeSpec.witness6 (enc := enc) (C := Try.checked) false ⟨#[], #[.int .i64 0, .int .i64 0, .slice none 0 0], []⟩ 8 (by kernel_rfl) (by kernel_rfl) (by kernel_rfl) (by kernel_rfl)) ?_
  intro W base args ds gs before hval0 hW hcnd _
  have hval : ∀ (j : Nat) t v, Try.f13.params[j]? = some t → args[j]? = some v → Value.okWide Try.prog W .any base t v := hval0
  have hW' := hW
  obtain ⟨p, q, hA0, hV, rfl, hfz, hnd⟩ := hW
  have hA : DataW.TrodAll enc Try.prog W 0 (fun _ => true) true Try.f13.params.toList args.toList ds p := hA0
  rw [Try.params13] at hA hval
  obtain ⟨v0, vs0, d0, ds0, p0, q0, hargs, rfl, rfl, h0, r0⟩ := trodAll_cons hA
  obtain ⟨v1, vs1, d1, ds1, p1, q1, rfl, rfl, rfl, h1, r1⟩ := trodAll_cons r0
  obtain ⟨v2, vs2, d2, ds2, p2, q2, rfl, rfl, rfl, h2, r2⟩ := trodAll_cons r1
  obtain ⟨rfl, rfl, rfl⟩ := trodAll_nil r2
  obtain rfl : args = #[v0, v1, v2] := by cases args; simp_all
  obtain ⟨rfl, rfl⟩ := trodVars_none hV
  obtain ⟨a0, rfl, rfl, rfl, w0⟩ := open_int Try.underlying3 (hval 0 3 v0 rfl rfl) h0
  have b0 := i64_of_wf w0
  obtain ⟨a1, rfl, rfl, rfl, w1⟩ := open_int Try.underlying3 (hval 1 3 v1 rfl rfl) h1
  have b1 := i64_of_wf w1
  obtain ⟨a2, len2, cap2, rfl⟩ := okWide_slice Try.underlying43 (hval 2 43 v2 rfl rfl)
  have k2 := h2
  have lt2 : ∀ x ∈ p2, x.block < W.heap.size := by obtain ⟨m, hm⟩ := k2; exact DataW.trod_lt m _ _ _ hm
  obtain ⟨z2, H2, U2, M2⟩ := hasD_of_trod Try.underlying43 Try.underlying72 (by kernel_rfl) (by kernel_rfl) Try.underlying3 Try.underlying3 h2
  clear hA0 hval0
  refine (walk_FnExactShapePulses b0 b1 H2 U2 M2).mono fun e W' ⟨he, bel⟩ => ?_
  subst he
  exact ⟨_, rfl, _, _, _, [], _, [], hW', trodAll_mk1 (shut_bool Try.underlying4 _), (trodAll_cons_mk (shut_int Try.underlying3 w0) (trodAll_cons_mk (shut_int Try.underlying3 w1) (trodAll_cons_mk (Below.trod (by kernel_rfl) (by kernel_rfl) (of_decide_eq_true (by kernel_rfl)) k2 bel lt2) trodAll_mk0))), rfl, bel.frame _, fun h => by cases h⟩

theorem fnExactShapePulses_holds : Rows.FnExactShapePulsesSaid :=
  OpenClaim.holds_of_wide 13 Try.f13 rfl rfl rfl rfl rfl rfl rfl ⟨rfl, rfl, rfl, rfl, rfl⟩ rfl rfl rfl rfl rfl (by kernel_rfl) Try.func13
    (by unfold joinedFacts; with_reducible refine Bool.and_eq_true_iff.2 ⟨?_, (by as_aux_lemma => kernel_rfl)⟩; with_reducible refine Bool.and_eq_true_iff.2 ⟨?_, (by as_aux_lemma => kernel_rfl)⟩; with_reducible refine Bool.and_eq_true_iff.2 ⟨?_, (by as_aux_lemma => kernel_rfl)⟩; with_reducible refine Bool.and_eq_true_iff.2 ⟨?_, (by as_aux_lemma => kernel_rfl)⟩; with_reducible refine Bool.and_eq_true_iff.2 ⟨?_, (by with_unfolding_all exact shutMake)⟩; with_reducible refine Bool.and_eq_true_iff.2 ⟨?_, (by with_unfolding_all exact shutLifts)⟩; with_reducible refine Bool.and_eq_true_iff.2 ⟨?_, shutEnter⟩; (repeat (with_reducible refine Bool.and_eq_true_iff.2 ⟨?_, (by as_aux_lemma => kernel_rfl)⟩)); as_aux_lemma => kernel_rfl)
    (of_decide_eq_true (by kernel_rfl)) (by unfold Func.isWrapper; first | (rw [if_pos (by decide +kernel)]; kernel_rfl) | (rw [if_neg (by decide +kernel)]; exact ⟨rfl, rfl⟩))
    (fun os started H enc _ => lifted_FnExactShapePulses os started H enc)
end Go.Proofs.Ytnloejcfakcpfaa
