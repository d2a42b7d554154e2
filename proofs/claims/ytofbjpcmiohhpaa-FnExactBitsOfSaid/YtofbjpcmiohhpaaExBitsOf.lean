/-
  FnExactBitsOf: for every slice of bytes the exact law of BitsOf returns true and writes nothing that was there. No condition.
-/
import Derived.Test.YtofbjpcmiohhpaaBits
namespace Go.Proofs.Ytofbjpcmiohhpaa
open Go.RowKit Go.ChangeShapes Go.WideShapes Go.ChangeAt

set_option maxHeartbeats 2000000 in
theorem walk_FnExactBitsOf {A : Option Addr} {n c : Nat} {zs : List Int} {w : World} (h : Has w A n (ints .u8 zs)) (hwf : ∀ z ∈ zs, (Lit.int .u8 z).wf = true) (_ : n ≤ maxLen) :
    Calls Try.prog 7 #[.slice A n c] w fun e w' => e = .returned (.bool true) ∧ Below w.heap.size w w' := by
  have hu : U8s zs := fun z hz => u8_of_wf (hwf z hz)
  by_cases hn : n ≤ 1048576
  · go_enter Try.func7, Try.ntmps7
    go_wp2_with (fail)
    refine (toByteS_any h (by omega)).mono ?_
    rintro e w1 ⟨g1, rfl, O1, B1⟩
    go_wp2_with (fail)
    refine (specBitsOf_any O1.has hu (by omega)).mono ?_
    rintro e w2 ⟨A2, n2, c2, rfl, O2, B2⟩
    go_wp2_with (fail)
    refine (toByteS_any (h.bel (bel_trans B1 B2)) (by omega)).mono ?_
    rintro e w3 ⟨g3, rfl, O3, B3⟩
    go_wp2_with (fail)
    refine (implBitsOf_any O3.has hu (by omega)).mono ?_
    rintro e w4 ⟨A4, n4, c4, rfl, O4, B4⟩
    have hn2 : n2 ≤ 4800 := by have := O2.has.len; have := bitsOf_le zs; omega
    have hn4 : n4 ≤ 4800 := by have := O4.has.len; have := bitsOf_le zs; omega
    have B02 := bel_trans B1 B2
    have B03 := bel_trans B02 B3
    have B04 := bel_trans B03 B4
    have B24 := bel_trans B3 B4
    go_wp2_with (fail)
    refine (eqIntS_b O4.has (O2.has.bel B24) (by omega)).mono ?_
    rintro e w5 ⟨rfl, B5⟩
    have B05 := bel_trans B04 B5
    go_wp2_with (fail)
    refine (toByteS_any (h.bel B05) (by omega)).mono ?_
    rintro e w6 ⟨g6, rfl, O6, B6⟩
    have B06 := bel_trans B05 B6
    have B46 := bel_trans B5 B6
    go_wp2_with (fail)
    refine (eqByteS_b (O3.has.bel (bel_trans B4 B46)) O6.has (by omega)).mono ?_
    rintro e w7 ⟨rfl, B7⟩
    have B07 := bel_trans B06 B7
    have B47 := bel_trans B46 B7
    have X7 := O3.bel (bel_trans B4 B47)
    have G7 := O4.bel B47
    have S7 := O2.bel (bel_trans B24 B47)
    go_wp2_with (fail)
    refine (markByteS_any X7 (K := 1) (by omega) (by omega)).mono ?_
    rintro e w8 ⟨rfl, X8, M8⟩
    have G8 := G7.later O3.lt M8
    have S8 := S7.earlier O2.lt (O3.ge (Nat.le_refl _)) M8
    have B08 := bel_grown B07 M8 (O3.ge B02.size)
    go_wp2_with (fail)
    refine (eqIntS_b G8.has S8.has (by omega)).mono ?_
    rintro e w9 ⟨rfl, B9⟩
    have B09 := bel_trans B08 B9
    have G9 := G8.bel B9
    have S9 := S8.bel B9
    go_wp2_with (fail)
    refine (markIntS_any G9 (K := 1) (by omega) (by omega)).mono ?_
    rintro e w10 ⟨rfl, G10, M10⟩
    have S10 := S9.earlier O2.lt (O4.ge B3.size) M10
    have B010 := bel_grown B09 M10 (O4.ge B03.size)
    go_wp2_with (fail)
    refine (heldIntS_any G10.has (by omega) (by omega)).mono ?_
    rintro e w11 ⟨rfl, rfl⟩
    go_wp2_with (fail)
    refine (toByteS_any (h.bel B010) (by omega)).mono ?_
    rintro e w12 ⟨g12, rfl, O12, B12⟩
    have B012 := bel_trans B010 B12
    go_wp2_with (fail)
    refine (implBitsOf_any O12.has hu (by omega)).mono ?_
    rintro e w13 ⟨A13, n13, c13, rfl, O13, B13⟩
    have B1013 := bel_trans B12 B13
    have hn13 : n13 ≤ 4800 := by have := O13.has.len; have := bitsOf_le zs; omega
    go_wp2_with (fail)
    refine (eqIntS_b O13.has (S10.has.bel B1013) (by omega)).mono ?_
    rintro e w14 ⟨rfl, B14⟩
    have B1014 := bel_trans B1013 B14
    go_wp2_with (fail)
    refine (heldIntS_any (G10.has.bel B1014) (by omega) (by omega)).mono ?_
    rintro e w15 ⟨rfl, rfl⟩
    go_wp2
    go_ret
    exact ⟨rfl, bel_trans B010 B1014⟩
  · go_enter Try.func7, Try.ntmps7
    go_wp2
    go_ret
    exact ⟨rfl, Below.refl _ _⟩
set_option maxRecDepth 100000 in
theorem lifted_FnExactBitsOf (os : Os) (started : os.Started) (H : Type) (enc : TypeId × Value → H) :
    ReturnsInHanded {} Try.checked os 7 .any (Rows.fnExactBitsOfSpec.pre6 enc Try.prog Try.f7 Rows.fnExactBitsOfRow.domain false) (Rows.fnExactBitsOfSpec.post enc Try.prog Try.f7 false true false false) := by
  refine returnsInHanded_of_change (C := Try.checked) (by kernel_rfl) started (by kernel_rfl) Try.func7
    (ChangeSpec.witness6 (enc := enc) (C := Try.checked) false ⟨#[], #[.slice none 0 0], []⟩ 8 (by kernel_rfl) (by kernel_rfl) (by kernel_rfl) (by kernel_rfl)) ?_
  intro W base args ds gs before hval0 hW hcnd _
  have hval : ∀ (j : Nat) t v, Try.f7.params[j]? = some t → args[j]? = some v → Value.okWide Try.prog W .any base t v := hval0
  have hW' := hW
  obtain ⟨p, q, hA0, hV, rfl, hfz, hnd⟩ := hW
  have hA : DataW.TrodAll enc Try.prog W 0 (fun _ => true) true Try.f7.params.toList args.toList ds p := hA0
  rw [Try.params7] at hA hval
  obtain ⟨v0, vs0, d0, ds0, p0, q0, hargs, rfl, rfl, h0, r0⟩ := trodAll_cons hA
  obtain ⟨rfl, rfl, rfl⟩ := trodAll_nil r0
  obtain rfl : args = #[v0] := by cases args; simp_all
  obtain ⟨rfl, rfl⟩ := trodVars_none hV
  obtain ⟨a0, len0, cap0, rfl⟩ := okWide_slice Try.underlying22 (hval 0 22 v0 rfl rfl)
  have k0 := h0
  have lt0 : ∀ x ∈ p0, x.block < W.heap.size := by obtain ⟨m, hm⟩ := k0; exact DataW.trod_lt m _ _ _ hm
  obtain ⟨z0, H0, U0, M0⟩ := has_of_trod (k := .u8) Try.underlying22 Try.underlying5 (by kernel_rfl) h0
  clear hA0 hval0
  refine (walk_FnExactBitsOf H0 U0 M0).mono fun e W' ⟨he, bel⟩ => ?_
  subst he
  exact ⟨_, rfl, _, _, _, [], _, [], hW', trodAll_mk1 (shut_bool Try.underlying4 _), (trodAll_cons_mk (Below.trod (by kernel_rfl) (by kernel_rfl) (of_decide_eq_true (by kernel_rfl)) k0 bel lt0) trodAll_mk0), rfl, bel.frame _, fun h => by cases h⟩

theorem fnExactBitsOf_holds : Rows.FnExactBitsOfSaid :=
  OpenClaim.holds_of_wide 7 Try.f7 rfl rfl rfl rfl rfl rfl rfl ⟨rfl, rfl, rfl, rfl, rfl⟩ rfl rfl rfl rfl rfl (by kernel_rfl) Try.func7 (by kernel_rfl)
    (of_decide_eq_true (by kernel_rfl)) (by unfold Func.isWrapper; first | (rw [if_pos (by decide +kernel)]; kernel_rfl) | (rw [if_neg (by decide +kernel)]; exact ⟨rfl, rfl⟩))
    (fun os started H enc _ => lifted_FnExactBitsOf os started H enc)
end Go.Proofs.Ytofbjpcmiohhpaa
