/-
  FnParityFlip: for every slice of bytes the law returns true and writes nothing that was there. No condition.
-/
import Derived.Test.YtofbjpcmiohhpaaMath1
import Derived.Test.YtofbjpcmiohhpaaDraw1
namespace Go.Proofs.Ytofbjpcmiohhpaa
open Go.RowKit Go.ChangeShapes Go.WideShapes Go.ChangeAt

set_option maxHeartbeats 4000000 in
set_option maxRecDepth 100000 in
theorem walk_FnParityFlip {A0 : Option Addr} {n0 c0 : Nat} {zs0 : List Int} {w : World} (h0 : Has w A0 n0 (ints .u8 zs0)) (hwf0 : ∀ z ∈ zs0, (Lit.int .u8 z).wf = true) (hc0 : n0 ≤ c0 ∧ c0 ≤ maxLen) :
    Calls Try.prog 5 #[.slice A0 n0 c0] w fun e w' => e = .returned (.bool true) ∧ Below w.heap.size w w' := by
  have hu0 : U8s zs0 := fun z hz => u8_of_wf (hwf0 z hz)
  clear hwf0
  by_cases hn0 : n0 ≤ 1048576
  · go_enter Try.func5, Try.ntmps5
    go_wp2_with (fail)
    refine (drawFlipBit_any h0 hu0 hc0).mono ?_
    rintro e w1 ⟨A1, n1, c1, xs, i, rfl, O1, hx, hn1, hi, B1⟩
    have hib : -9223372036854775808 ≤ i ∧ i ≤ 9223372036854775807 := by omega
    go_wp2_with (fail)
    refine (implFlipBit_any O1.has hx (by omega) hib).mono ?_
    rintro e w2 ⟨A2, n2, c2, rfl, O2, B2⟩
    have C2 := bel_trans B1 B2
    have X2 := O1.bel B2
    go_wp2_with (fail)
    refine (specFlipBit_any X2.has hx (by omega) hib).mono ?_
    rintro e w3 ⟨A3, n3, c3, rfl, O3, B3⟩
    have C3 := bel_trans C2 B3
    have X3 := X2.bel B3
    have Y3 := O2.bel B3
    have s1 := run_str (dst := 9) (c := c2) Try.underlying22 Try.underlying5 Try.underlying9 Y3.has
    have s2 := run_str (dst := 9) (c := c3) Try.underlying22 Try.underlying5 Try.underlying9 O3.has
    obtain ⟨g0, g1⟩ := par_ge xs
    by_cases hg : flipGood xs i
    · have hok : flipOk xs i = true := by simp [flipOk, hg]
      go_wp2_with (fail)
      refine (implParityOf_any X3.has hx (by omega)).mono ?_
      rintro e w4 ⟨rfl, B4⟩
      have X4 := X3.bel B4
      go_wp2_with (fail)
      refine (specParityOf_any X4.has hx (by omega)).mono ?_
      rintro e w5 ⟨rfl, B5⟩
      have C5 := bel_trans (bel_trans C3 B4) B5
      have X5 := X4.bel B5
      have Y5 := (Y3.bel B4).bel B5
      obtain ⟨k, rfl⟩ := Int.eq_ofNat_of_zero_le hg.2.1
      obtain ⟨f1, f2, f3, f4, f5, f6⟩ := flip_back xs k hx hg
      have ln := Y5.has.len
      have lx := X5.has.len
      have hl := hg.1
      have hn2 : n2 ≤ 601 := by omega
      have F3 := Lib.hid f3
      have F5 := Lib.hid f5
      have F6 := Lib.hid f6
      clear f1 f3 f5 f6 ln lx hl hg s1 s2
      go_wp2_with (fail)
      refine (implFlipBit_any Y5.has f2 (by omega) hib).mono ?_
      rintro e w6 ⟨A6, n6, c6, rfl, O6, B6⟩
      rw [F3.out] at O6
      have C6 := bel_trans C5 B6
      have X6 := X5.bel B6
      have Y6 := Y5.bel B6
      have s3 := run_str (dst := 9) (c := c6) Try.underlying22 Try.underlying5 Try.underlying9 O6.has
      have s4 := run_str (dst := 9) (c := c1) Try.underlying22 Try.underlying5 Try.underlying9 X6.has
      go_wp2_with (fail)
      refine (implParityOf_any Y6.has f2 (by omega)).mono ?_
      rw [F5.out]
      rintro e w7 ⟨rfl, B7⟩
      have X7 := X6.bel B7
      have Y7 := Y6.bel B7
      have C7 := bel_trans C6 B7
      go_wp2_with (fail)
      refine (implParityOf_any X7.has hx (by omega)).mono ?_
      rintro e w8 ⟨rfl, B8⟩
      have X8 := X7.bel B8
      have Y8 := Y7.bel B8
      have C8 := bel_trans C7 B8
      go_wp2_with (fail)
      refine (implDistance_any Y8.has f2 (by omega) X8.has hx (by omega)).mono ?_
      rw [F6.out]
      rintro e w9 ⟨rfl, B9⟩
      have C9 := bel_trans C8 B9
      go_wp2
      go_ret
      exact ⟨rfl, C9⟩
    · have hok : flipOk xs i = false := by simp [flipOk, hg]
      clear hg
      go_wp2_with (fail)
      refine (implParityOf_any X3.has hx (by omega)).mono ?_
      rintro e w4 ⟨rfl, B4⟩
      have X4 := X3.bel B4
      go_wp2_with (fail)
      refine (specParityOf_any X4.has hx (by omega)).mono ?_
      rintro e w5 ⟨rfl, B5⟩
      have C5 := bel_trans (bel_trans C3 B4) B5
      have X5 := X4.bel B5
      have s1 := run_str (dst := 9) (c := c2) Try.underlying22 Try.underlying5 Try.underlying9 ((Y3.bel B4).bel B5).has
      have s2 := run_str (dst := 9) (c := c3) Try.underlying22 Try.underlying5 Try.underlying9 ((O3.bel B4).bel B5).has
      go_wp2_with (fail)
      refine (implParityOf_any X5.has hx (by omega)).mono ?_
      rintro e w6 ⟨rfl, B6⟩
      have X6 := X5.bel B6
      go_wp2_with (fail)
      refine (specParityOf_any X6.has hx (by omega)).mono ?_
      rintro e w7 ⟨rfl, B7⟩
      have C7 := bel_trans (bel_trans C5 B6) B7
      go_wp2
      go_ret
      exact ⟨rfl, C7⟩
  · go_enter Try.func5, Try.ntmps5
    go_wp2
    go_ret
    exact ⟨rfl, Below.refl _ _⟩
set_option maxRecDepth 100000 in
theorem lifted_FnParityFlip (os : Os) (started : os.Started) (H : Type) (enc : TypeId × Value → H) :
    ReturnsInHanded {} Try.checked os 5 .any (Rows.fnParityFlipSpec.pre6 enc Try.prog Try.f5 Rows.fnParityFlipRow.domain false) (Rows.fnParityFlipSpec.post enc Try.prog Try.f5 false true false false) := by
  refine returnsInHanded_of_change (C := Try.checked) (by kernel_rfl) started (by kernel_rfl) Try.func5
    (ChangeSpec.witness6 (enc := enc) (C := Try.checked) false ⟨#[], #[.slice none 0 0], []⟩ 8 (by kernel_rfl) (by kernel_rfl) (by kernel_rfl) (by kernel_rfl)) ?_
  intro W base args ds gs before hval0 hW hcnd _
  have hval : ∀ (j : Nat) t v, Try.f5.params[j]? = some t → args[j]? = some v → Value.okWide Try.prog W .any base t v := hval0
  have hW' := hW
  obtain ⟨p, q, hA0, hV, rfl, hfz, hnd⟩ := hW
  have hA : DataW.TrodAll enc Try.prog W 0 (fun _ => true) true Try.f5.params.toList args.toList ds p := hA0
  rw [Try.params5] at hA hval
  obtain ⟨v0, vs0, d0, ds0, p0, q0, hargs, rfl, rfl, h0, r0⟩ := trodAll_cons hA
  obtain ⟨rfl, rfl, rfl⟩ := trodAll_nil r0
  obtain rfl : args = #[v0] := by cases args; simp_all
  obtain ⟨rfl, rfl⟩ := trodVars_none hV
  obtain ⟨a0, len0, cap0, rfl⟩ := okWide_slice Try.underlying22 (hval 0 22 v0 rfl rfl)
  have k0 := h0
  have lt0 : ∀ x ∈ p0, x.block < W.heap.size := by obtain ⟨m, hm⟩ := k0; exact DataW.trod_lt m _ _ _ hm
  obtain ⟨z0, H0, U0, M0⟩ := has_of_trod (k := .u8) Try.underlying22 Try.underlying5 (by kernel_rfl) h0
  clear hA0 hval0
  refine (walk_FnParityFlip H0 U0 M0).mono fun e W' ⟨he, bel⟩ => ?_
  subst he
  exact ⟨_, rfl, _, _, _, [], _, [], hW', trodAll_mk1 (shut_bool Try.underlying4 _), (trodAll_cons_mk (Below.trod (by kernel_rfl) (by kernel_rfl) (of_decide_eq_true (by kernel_rfl)) k0 bel lt0) trodAll_mk0), rfl, bel.frame _, fun h => by cases h⟩

theorem fnParityFlip_holds : Rows.FnParityFlipSaid :=
  OpenClaim.holds_of_wide 5 Try.f5 rfl rfl rfl rfl rfl rfl rfl ⟨rfl, rfl, rfl, rfl, rfl⟩ rfl rfl rfl rfl rfl (by kernel_rfl) Try.func5 (by kernel_rfl)
    (of_decide_eq_true (by kernel_rfl)) (by unfold Func.isWrapper; first | (rw [if_pos (by decide +kernel)]; kernel_rfl) | (rw [if_neg (by decide +kernel)]; exact ⟨rfl, rfl⟩))
    (fun os started H enc _ => lifted_FnParityFlip os started H enc)
end Go.Proofs.Ytofbjpcmiohhpaa
