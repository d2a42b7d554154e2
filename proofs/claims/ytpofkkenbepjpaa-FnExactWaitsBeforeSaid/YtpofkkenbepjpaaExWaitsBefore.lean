/-
  FnExactWaitsBefore: for every argument the exact law of WaitsBefore returns true and writes nothing that was there. No condition.
-/
import Derived.Test.YtpofkkenbepjpaaImp12b
import Derived.Test.YtpofkkenbepjpaaJobLaws
import Derived.Test.YtpofkkenbepjpaaShut
namespace Go.Proofs.Ytpofkkenbepjpaa
open Go.RowKit Go.ChangeShapes Go.WideShapes Go.ChangeAt

set_option maxRecDepth 100000 in
set_option maxHeartbeats 8000000 in
theorem walk_FnExactWaitsBefore {A0 : Option Addr} {n0 c0 : Nat} {zs0 : List Duo} {A1 : Option Addr} {n1 c1 : Nat} {zs1 : List Int} {a2 : Int} {w : World} (h0 : HasD w A0 n0 zs0) (_ : I64D zs0) (hc0 : n0 ≤ c0 ∧ c0 ≤ maxLen) (h1 : Has w A1 n1 (ints .i64 zs1)) (_ : ∀ z ∈ zs1, (Lit.int .i64 z).wf = true) (hc1 : n1 ≤ c1 ∧ c1 ≤ maxLen) (_ : -9223372036854775808 ≤ a2 ∧ a2 ≤ 9223372036854775807) :
    Calls Try.prog 15 #[.slice A0 n0 c0, .slice A1 n1 c1, .int .i64 a2] w fun e w' => e = .returned (.bool true) ∧ Below w.heap.size w w' := by
  have hm0 : n0 ≤ 9223372036854775807 := Nat.le_trans hc0.1 (Nat.le_trans hc0.2 (by unfold maxLen; omega))
  have hm1 : n1 ≤ 9223372036854775807 := Nat.le_trans hc1.1 (Nat.le_trans hc1.2 (by unfold maxLen; omega))
  obtain ⟨R, hR⟩ : ∃ R, waitsL zs0 zs1 a2 = R := ⟨_, rfl⟩
  have bB : (R != R) = false := by simp
  clear hc0 hc1
  by_cases hn1 : n1 ≤ 1048576
  rotate_left
  · go_enter Try.func15, Try.ntmps15
    go_wp2
    go_ret
    exact ⟨rfl, Below.refl _ _⟩
  have SZ0 := Lib.hid (szJobS_any (A := A0) (n := n0) (c := c0) (w := w) (L := 1048576) rfl hm0)
  by_cases hn0 : n0 ≤ 1048576
  rotate_left
  · rw [if_neg hn0] at SZ0
    go_enter Try.func15, Try.ntmps15
    go_wp2_with (fail)
    refine SZ0.out.mono ?_
    rintro e w' ⟨rfl, rfl⟩
    go_wp2
    go_ret
    exact ⟨rfl, Below.refl _ _⟩
  rw [if_pos hn0] at SZ0
  have zB0 : decide ((1048576 : Int) - (n0 : Int) < 0) = false := by simp; omega
  go_enter Try.func15, Try.ntmps15
  go_wp2_with (fail)
  refine SZ0.out.mono ?_
  rintro e w' ⟨rfl, rfl⟩
  go_wp2_with (fail)
  refine (toJobS_any (h0.bel (Below.refl _ _)) (by omega)).mono ?_
  rintro e w1 ⟨Ap0, ccp0, rfl, O1, B1⟩
  have S1 : w.heap.size ≤ w1.heap.size := B1.size
  have C1 := B1
  have bp0 : ∀ a, Ap0 = some a → w.heap.size ≤ a.block ∧ a.block < w1.heap.size := fun a ha => by subst ha; exact World.ownsRow.lt O1 a.block rfl
  go_wp2_with (fail)
  refine (toIntS_any (h1.bel C1) (by omega)).mono ?_
  rintro e w2 ⟨gp1, rfl, O2, B2⟩
  have S2 : w1.heap.size ≤ w2.heap.size := B2.size
  have C2 := bel_trans C1 B2
  have p0_2 := O1.bel B2
  obtain ⟨Ap1, hAp1⟩ : ∃ A, A = some (⟨gp1, 0, none⟩ : Addr) := ⟨_, rfl⟩
  have bp1 : ∀ a, Ap1 = some a → w1.heap.size ≤ a.block ∧ a.block < w2.heap.size := fun a ha => by rw [hAp1] at ha; cases ha; exact O2.block
  go_wp2_with (fail)
  refine (specWaitsBefore_r p0_2.has O2.has (by omega) (by omega) hR).mono ?_
  rintro e w' ⟨rfl, rfl⟩
  go_wp2_with (fail)
  refine (toJobS_any (h0.bel C2) (by omega)).mono ?_
  rintro e w3 ⟨Ax0, ccx0, rfl, O3, B3⟩
  have S3 : w2.heap.size ≤ w3.heap.size := B3.size
  have C3 := bel_trans C2 B3
  have bx0 : ∀ a, Ax0 = some a → w2.heap.size ≤ a.block ∧ a.block < w3.heap.size := fun a ha => by subst ha; exact World.ownsRow.lt O3 a.block rfl
  go_wp2_with (fail)
  refine (toIntS_any (h1.bel C3) (by omega)).mono ?_
  rintro e w4 ⟨gx1, rfl, O4, B4⟩
  have S4 : w3.heap.size ≤ w4.heap.size := B4.size
  have C4 := bel_trans C3 B4
  have x0_4 := O3.bel B4
  obtain ⟨Ax1, hAx1⟩ : ∃ A, A = some (⟨gx1, 0, none⟩ : Addr) := ⟨_, rfl⟩
  have bx1 : ∀ a, Ax1 = some a → w3.heap.size ≤ a.block ∧ a.block < w4.heap.size := fun a ha => by rw [hAx1] at ha; cases ha; exact O4.block
  go_wp2_with (fail)
  refine (implWaitsBefore_r x0_4.has O4.has (by omega) (Nat.le_refl _) hR).mono ?_
  rintro e w' ⟨rfl, rfl⟩
  go_wp2_with (fail)
  refine (toJobS_any (h0.bel C4) (by omega)).mono ?_
  rintro e w5 ⟨Ay0, ccy0, rfl, O5, B5⟩
  have S5 : w4.heap.size ≤ w5.heap.size := B5.size
  have C5 := bel_trans C4 B5
  have x0_5 := x0_4.bel B5
  have x1_5 := O4.bel B5
  have by0 : ∀ a, Ay0 = some a → w4.heap.size ≤ a.block ∧ a.block < w5.heap.size := fun a ha => by subst ha; exact World.ownsRow.lt O5 a.block rfl
  go_wp2_with (fail)
  refine (eqJobS_same x0_5.has O5.has (by omega)).mono ?_
  rintro e w6 ⟨rfl, B6⟩
  have S6 : w5.heap.size ≤ w6.heap.size := B6.size
  have C6 := bel_trans C5 B6
  have x0_6 := x0_5.bel B6
  have x1_6 := x1_5.bel B6
  have y0_6 := O5.bel B6
  go_wp2_with (fail)
  refine (toIntS_any (h1.bel C6) (by omega)).mono ?_
  rintro e w7 ⟨gy1, rfl, O7, B7⟩
  have S7 : w6.heap.size ≤ w7.heap.size := B7.size
  have C7 := bel_trans C6 B7
  have x0_7 := x0_6.bel B7
  have x1_7 := x1_6.bel B7
  obtain ⟨Ay1, hAy1⟩ : ∃ A, A = some (⟨gy1, 0, none⟩ : Addr) := ⟨_, rfl⟩
  have by1 : ∀ a, Ay1 = some a → w6.heap.size ≤ a.block ∧ a.block < w7.heap.size := fun a ha => by rw [hAy1] at ha; cases ha; exact O7.block
  go_wp2_with (fail)
  refine (eqIntS_b x1_7.has O7.has (by omega)).mono ?_
  rintro e w8 ⟨rfl, B8⟩
  have S8 : w7.heap.size ≤ w8.heap.size := B8.size
  have C8 := bel_trans C7 B8
  have x0_8 := x0_7.bel B8
  have x1_8 := x1_7.bel B8
  have y1_8 := O7.bel B8
  go_wp2
  go_ret
  exact ⟨rfl, C8⟩
set_option maxRecDepth 100000 in
theorem lifted_FnExactWaitsBefore (os : Os) (started : os.Started) (H : Type) (enc : TypeId × Value → H) :
    ReturnsInHanded {} Try.checked os 15 .any (Rows.fnExactWaitsBeforeSpec.pre6 enc Try.prog Try.f15 Rows.fnExactWaitsBeforeRow.domain false) (Rows.fnExactWaitsBeforeSpec.post enc Try.prog Try.f15 false true false false) := by
  refine returnsInHanded_of_change (C := Try.checked) (by kernel_rfl) started (by kernel_rfl) Try.func15
    (ChangeSpec.witness6 (enc := enc) (C := Try.checked) false ⟨#[], #[.slice none 0 0, .slice none 0 0, .int .i64 0], []⟩ 8 (by kernel_rfl) (by kernel_rfl) (by kernel_rfl) (by kernel_rfl)) ?_
  intro W base args ds gs before hval0 hW hcnd _
  have hval : ∀ (j : Nat) t v, Try.f15.params[j]? = some t → args[j]? = some v → Value.okWide Try.prog W .any base t v := hval0
  have hW' := hW
  obtain ⟨p, q, hA0, hV, rfl, hfz, hnd⟩ := hW
  have hA : DataW.TrodAll enc Try.prog W 0 (fun _ => true) true Try.f15.params.toList args.toList ds p := hA0
  rw [Try.params15] at hA hval
  obtain ⟨v0, vs0, d0, ds0, p0, q0, hargs, rfl, rfl, h0, r0⟩ := trodAll_cons hA
  obtain ⟨v1, vs1, d1, ds1, p1, q1, rfl, rfl, rfl, h1, r1⟩ := trodAll_cons r0
  obtain ⟨v2, vs2, d2, ds2, p2, q2, rfl, rfl, rfl, h2, r2⟩ := trodAll_cons r1
  obtain ⟨rfl, rfl, rfl⟩ := trodAll_nil r2
  obtain rfl : args = #[v0, v1, v2] := by cases args; simp_all
  obtain ⟨rfl, rfl⟩ := trodVars_none hV
  obtain ⟨a0, len0, cap0, rfl⟩ := okWide_slice Try.underlying43 (hval 0 43 v0 rfl rfl)
  have k0 := h0
  have lt0 : ∀ x ∈ p0, x.block < W.heap.size := by obtain ⟨m, hm⟩ := k0; exact DataW.trod_lt m _ _ _ hm
  obtain ⟨z0, H0, U0, M0⟩ := hasD_of_trod Try.underlying43 Try.underlying79 (by kernel_rfl) (by kernel_rfl) Try.underlying3 Try.underlying3 h0
  obtain ⟨a1, len1, cap1, rfl⟩ := okWide_slice Try.underlying23 (hval 1 23 v1 rfl rfl)
  have k1 := h1
  have lt1 : ∀ x ∈ p1, x.block < W.heap.size := by obtain ⟨m, hm⟩ := k1; exact DataW.trod_lt m _ _ _ hm
  obtain ⟨z1, H1, U1, M1⟩ := has_of_trod (k := .i64) Try.underlying23 Try.underlying3 (by kernel_rfl) h1
  obtain ⟨a2, rfl, rfl, rfl, w2⟩ := open_int Try.underlying3 (hval 2 3 v2 rfl rfl) h2
  have b2 := i64_of_wf w2
  clear hA0 hval0
  refine (walk_FnExactWaitsBefore H0 U0 M0 H1 U1 M1 b2).mono fun e W' ⟨he, bel⟩ => ?_
  subst he
  exact ⟨_, rfl, _, _, _, [], _, [], hW', trodAll_mk1 (shut_bool Try.underlying4 _), (trodAll_cons_mk (Below.trod (by kernel_rfl) (by kernel_rfl) (of_decide_eq_true (by kernel_rfl)) k0 bel lt0) (trodAll_cons_mk (Below.trod (by kernel_rfl) (by kernel_rfl) (of_decide_eq_true (by kernel_rfl)) k1 bel lt1) (trodAll_cons_mk (shut_int Try.underlying3 w2) trodAll_mk0))), rfl, bel.frame _, fun h => by cases h⟩

theorem fnExactWaitsBefore_holds : Rows.FnExactWaitsBeforeSaid :=
  OpenClaim.holds_of_wide 15 Try.f15 rfl rfl rfl rfl rfl rfl rfl ⟨rfl, rfl, rfl, rfl, rfl⟩ rfl rfl rfl rfl rfl (by kernel_rfl) Try.func15
    (by unfold joinedFacts; with_reducible refine Bool.and_eq_true_iff.2 ⟨?_, (by as_aux_lemma => kernel_rfl)⟩; with_reducible refine Bool.and_eq_true_iff.2 ⟨?_, (by as_aux_lemma => kernel_rfl)⟩; with_reducible refine Bool.and_eq_true_iff.2 ⟨?_, (by as_aux_lemma => kernel_rfl)⟩; with_reducible refine Bool.and_eq_true_iff.2 ⟨?_, (by as_aux_lemma => kernel_rfl)⟩; with_reducible refine Bool.and_eq_true_iff.2 ⟨?_, (by with_unfolding_all exact shutMake)⟩; with_reducible refine Bool.and_eq_true_iff.2 ⟨?_, (by with_unfolding_all exact shutLifts)⟩; with_reducible refine Bool.and_eq_true_iff.2 ⟨?_, shutEnter⟩; (repeat (with_reducible refine Bool.and_eq_true_iff.2 ⟨?_, (by as_aux_lemma => kernel_rfl)⟩)); as_aux_lemma => kernel_rfl)
    (of_decide_eq_true (by kernel_rfl)) (by unfold Func.isWrapper; first | (rw [if_pos (by decide +kernel)]; kernel_rfl) | (rw [if_neg (by decide +kernel)]; exact ⟨rfl, rfl⟩))
    (fun os started H enc _ => lifted_FnExactWaitsBefore os started H enc)
end Go.Proofs.Ytpofkkenbepjpaa
