/-
  FnExactJobsValid: for every argument the exact law of JobsValid returns true and writes nothing that was there. No condition.
-/
import Derived.Test.YtpofkkenbepjpaaImp12a
import Derived.Test.YtpofkkenbepjpaaJobLaws
import Derived.Test.YtpofkkenbepjpaaShut
namespace Go.Proofs.Ytpofkkenbepjpaa
open Go.RowKit Go.ChangeShapes Go.WideShapes Go.ChangeAt

set_option maxRecDepth 100000 in
set_option maxHeartbeats 8000000 in
theorem walk_FnExactJobsValid {A0 : Option Addr} {n0 c0 : Nat} {zs0 : List Int} {A1 : Option Addr} {n1 c1 : Nat} {zs1 : List Duo} {w : World} (h0 : Has w A0 n0 (ints .i64 zs0)) (_ : ∀ z ∈ zs0, (Lit.int .i64 z).wf = true) (hc0 : n0 ≤ c0 ∧ c0 ≤ maxLen) (h1 : HasD w A1 n1 zs1) (_ : I64D zs1) (hc1 : n1 ≤ c1 ∧ c1 ≤ maxLen) :
    Calls Try.prog 10 #[.slice A0 n0 c0, .slice A1 n1 c1] w fun e w' => e = .returned (.bool true) ∧ Below w.heap.size w w' := by
  have hm0 : n0 ≤ 9223372036854775807 := Nat.le_trans hc0.1 (Nat.le_trans hc0.2 (by unfold maxLen; omega))
  have hm1 : n1 ≤ 9223372036854775807 := Nat.le_trans hc1.1 (Nat.le_trans hc1.2 (by unfold maxLen; omega))
  obtain ⟨R, hR⟩ : ∃ R, decide (jobsOk zs0 zs1) = R := ⟨_, rfl⟩
  have bB : (R != R) = false := by simp
  clear hc0 hc1
  by_cases hn0 : n0 ≤ 1048576
  rotate_left
  · go_enter Try.func10, Try.ntmps10
    go_wp2
    go_ret
    exact ⟨rfl, Below.refl _ _⟩
  have SZ1 := Lib.hid (szJobS_any (A := A1) (n := n1) (c := c1) (w := w) (L := 1048576) rfl hm1)
  by_cases hn1 : n1 ≤ 1048576
  rotate_left
  · rw [if_neg hn1] at SZ1
    go_enter Try.func10, Try.ntmps10
    go_wp2_with (fail)
    refine SZ1.out.mono ?_
    rintro e w' ⟨rfl, rfl⟩
    go_wp2
    go_ret
    exact ⟨rfl, Below.refl _ _⟩
  rw [if_pos hn1] at SZ1
  have zB1 : decide ((1048576 : Int) - (n1 : Int) < 0) = false := by simp; omega
  go_enter Try.func10, Try.ntmps10
  go_wp2_with (fail)
  refine SZ1.out.mono ?_
  rintro e w' ⟨rfl, rfl⟩
  go_wp2_with (fail)
  refine (toIntS_any (h0.bel (Below.refl _ _)) (by omega)).mono ?_
  rintro e w1 ⟨gp0, rfl, O1, B1⟩
  have S1 : w.heap.size ≤ w1.heap.size := B1.size
  have C1 := B1
  obtain ⟨Ap0, hAp0⟩ : ∃ A, A = some (⟨gp0, 0, none⟩ : Addr) := ⟨_, rfl⟩
  have bp0 : ∀ a, Ap0 = some a → w.heap.size ≤ a.block ∧ a.block < w1.heap.size := fun a ha => by rw [hAp0] at ha; cases ha; exact O1.block
  go_wp2_with (fail)
  refine (toJobS_any (h1.bel C1) (by omega)).mono ?_
  rintro e w2 ⟨Ap1, ccp1, rfl, O2, B2⟩
  have S2 : w1.heap.size ≤ w2.heap.size := B2.size
  have C2 := bel_trans C1 B2
  have p0_2 := O1.bel B2
  have bp1 : ∀ a, Ap1 = some a → w1.heap.size ≤ a.block ∧ a.block < w2.heap.size := fun a ha => by subst ha; exact World.ownsRow.lt O2 a.block rfl
  go_wp2_with (fail)
  refine (specJobsValid_b p0_2.has O2.has (by omega) (by omega) hR).mono ?_
  rintro e w' ⟨rfl, rfl⟩
  go_wp2_with (fail)
  refine (toIntS_any (h0.bel C2) (by omega)).mono ?_
  rintro e w3 ⟨gx0, rfl, O3, B3⟩
  have S3 : w2.heap.size ≤ w3.heap.size := B3.size
  have C3 := bel_trans C2 B3
  obtain ⟨Ax0, hAx0⟩ : ∃ A, A = some (⟨gx0, 0, none⟩ : Addr) := ⟨_, rfl⟩
  have bx0 : ∀ a, Ax0 = some a → w2.heap.size ≤ a.block ∧ a.block < w3.heap.size := fun a ha => by rw [hAx0] at ha; cases ha; exact O3.block
  go_wp2_with (fail)
  refine (toJobS_any (h1.bel C3) (by omega)).mono ?_
  rintro e w4 ⟨Ax1, ccx1, rfl, O4, B4⟩
  have S4 : w3.heap.size ≤ w4.heap.size := B4.size
  have C4 := bel_trans C3 B4
  have x0_4 := O3.bel B4
  have bx1 : ∀ a, Ax1 = some a → w3.heap.size ≤ a.block ∧ a.block < w4.heap.size := fun a ha => by subst ha; exact World.ownsRow.lt O4 a.block rfl
  go_wp2_with (fail)
  refine (implJobsValid_b x0_4.has O4.has (by omega) (by omega) hR).mono ?_
  rintro e w5 ⟨rfl, B5⟩
  have S5 : w4.heap.size ≤ w5.heap.size := B5.size
  have C5 := bel_trans C4 B5
  have x0_5 := x0_4.bel B5
  have x1_5 := O4.bel B5
  go_wp2_with (fail)
  refine (toIntS_any (h0.bel C5) (by omega)).mono ?_
  rintro e w6 ⟨gy0, rfl, O6, B6⟩
  have S6 : w5.heap.size ≤ w6.heap.size := B6.size
  have C6 := bel_trans C5 B6
  have x0_6 := x0_5.bel B6
  have x1_6 := x1_5.bel B6
  obtain ⟨Ay0, hAy0⟩ : ∃ A, A = some (⟨gy0, 0, none⟩ : Addr) := ⟨_, rfl⟩
  have by0 : ∀ a, Ay0 = some a → w5.heap.size ≤ a.block ∧ a.block < w6.heap.size := fun a ha => by rw [hAy0] at ha; cases ha; exact O6.block
  go_wp2_with (fail)
  refine (eqIntS_b x0_6.has O6.has (by omega)).mono ?_
  rintro e w7 ⟨rfl, B7⟩
  have S7 : w6.heap.size ≤ w7.heap.size := B7.size
  have C7 := bel_trans C6 B7
  have x0_7 := x0_6.bel B7
  have x1_7 := x1_6.bel B7
  have y0_7 := O6.bel B7
  go_wp2_with (fail)
  refine (toJobS_any (h1.bel C7) (by omega)).mono ?_
  rintro e w8 ⟨Ay1, ccy1, rfl, O8, B8⟩
  have S8 : w7.heap.size ≤ w8.heap.size := B8.size
  have C8 := bel_trans C7 B8
  have x0_8 := x0_7.bel B8
  have x1_8 := x1_7.bel B8
  have by1 : ∀ a, Ay1 = some a → w7.heap.size ≤ a.block ∧ a.block < w8.heap.size := fun a ha => by subst ha; exact World.ownsRow.lt O8 a.block rfl
  go_wp2_with (fail)
  refine (eqJobS_same x1_8.has O8.has (by omega)).mono ?_
  rintro e w9 ⟨rfl, B9⟩
  have S9 : w8.heap.size ≤ w9.heap.size := B9.size
  have C9 := bel_trans C8 B9
  have x0_9 := x0_8.bel B9
  have x1_9 := x1_8.bel B9
  have y1_9 := O8.bel B9
  go_wp2
  go_ret
  exact ⟨rfl, C9⟩
set_option maxRecDepth 100000 in
theorem lifted_FnExactJobsValid (os : Os) (started : os.Started) (H : Type) (enc : TypeId × Value → H) :
    ReturnsInHanded {} Try.checked os 10 .any (Rows.fnExactJobsValidSpec.pre6 enc Try.prog Try.f10 Rows.fnExactJobsValidRow.domain false) (Rows.fnExactJobsValidSpec.post enc Try.prog Try.f10 false true false false) := by
  refine returnsInHanded_of_change (C := Try.checked) (by kernel_rfl) started (by kernel_rfl) Try.func10
    (ChangeSpec.witness6 (enc := enc) (C := Try.checked) false ⟨#[], #[.slice none 0 0, .slice none 0 0], []⟩ 8 (by kernel_rfl) (by kernel_rfl) (by kernel_rfl) (by kernel_rfl)) ?_
  intro W base args ds gs before hval0 hW hcnd _
  have hval : ∀ (j : Nat) t v, Try.f10.params[j]? = some t → args[j]? = some v → Value.okWide Try.prog W .any base t v := hval0
  have hW' := hW
  obtain ⟨p, q, hA0, hV, rfl, hfz, hnd⟩ := hW
  have hA : DataW.TrodAll enc Try.prog W 0 (fun _ => true) true Try.f10.params.toList args.toList ds p := hA0
  rw [Try.params10] at hA hval
  obtain ⟨v0, vs0, d0, ds0, p0, q0, hargs, rfl, rfl, h0, r0⟩ := trodAll_cons hA
  obtain ⟨v1, vs1, d1, ds1, p1, q1, rfl, rfl, rfl, h1, r1⟩ := trodAll_cons r0
  obtain ⟨rfl, rfl, rfl⟩ := trodAll_nil r1
  obtain rfl : args = #[v0, v1] := by cases args; simp_all
  obtain ⟨rfl, rfl⟩ := trodVars_none hV
  obtain ⟨a0, len0, cap0, rfl⟩ := okWide_slice Try.underlying23 (hval 0 23 v0 rfl rfl)
  have k0 := h0
  have lt0 : ∀ x ∈ p0, x.block < W.heap.size := by obtain ⟨m, hm⟩ := k0; exact DataW.trod_lt m _ _ _ hm
  obtain ⟨z0, H0, U0, M0⟩ := has_of_trod (k := .i64) Try.underlying23 Try.underlying3 (by kernel_rfl) h0
  obtain ⟨a1, len1, cap1, rfl⟩ := okWide_slice Try.underlying43 (hval 1 43 v1 rfl rfl)
  have k1 := h1
  have lt1 : ∀ x ∈ p1, x.block < W.heap.size := by obtain ⟨m, hm⟩ := k1; exact DataW.trod_lt m _ _ _ hm
  obtain ⟨z1, H1, U1, M1⟩ := hasD_of_trod Try.underlying43 Try.underlying79 (by kernel_rfl) (by kernel_rfl) Try.underlying3 Try.underlying3 h1
  clear hA0 hval0
  refine (walk_FnExactJobsValid H0 U0 M0 H1 U1 M1).mono fun e W' ⟨he, bel⟩ => ?_
  subst he
  exact ⟨_, rfl, _, _, _, [], _, [], hW', trodAll_mk1 (shut_bool Try.underlying4 _), (trodAll_cons_mk (Below.trod (by kernel_rfl) (by kernel_rfl) (of_decide_eq_true (by kernel_rfl)) k0 bel lt0) (trodAll_cons_mk (Below.trod (by kernel_rfl) (by kernel_rfl) (of_decide_eq_true (by kernel_rfl)) k1 bel lt1) trodAll_mk0)), rfl, bel.frame _, fun h => by cases h⟩

theorem fnExactJobsValid_holds : Rows.FnExactJobsValidSaid :=
  OpenClaim.holds_of_wide 10 Try.f10 rfl rfl rfl rfl rfl rfl rfl ⟨rfl, rfl, rfl, rfl, rfl⟩ rfl rfl rfl rfl rfl (by kernel_rfl) Try.func10
    (by unfold joinedFacts; with_reducible refine Bool.and_eq_true_iff.2 ⟨?_, (by as_aux_lemma => kernel_rfl)⟩; with_reducible refine Bool.and_eq_true_iff.2 ⟨?_, (by as_aux_lemma => kernel_rfl)⟩; with_reducible refine Bool.and_eq_true_iff.2 ⟨?_, (by as_aux_lemma => kernel_rfl)⟩; with_reducible refine Bool.and_eq_true_iff.2 ⟨?_, (by as_aux_lemma => kernel_rfl)⟩; with_reducible refine Bool.and_eq_true_iff.2 ⟨?_, (by with_unfolding_all exact shutMake)⟩; with_reducible refine Bool.and_eq_true_iff.2 ⟨?_, (by with_unfolding_all exact shutLifts)⟩; with_reducible refine Bool.and_eq_true_iff.2 ⟨?_, shutEnter⟩; (repeat (with_reducible refine Bool.and_eq_true_iff.2 ⟨?_, (by as_aux_lemma => kernel_rfl)⟩)); as_aux_lemma => kernel_rfl)
    (of_decide_eq_true (by kernel_rfl)) (by unfold Func.isWrapper; first | (rw [if_pos (by decide +kernel)]; kernel_rfl) | (rw [if_neg (by decide +kernel)]; exact ⟨rfl, rfl⟩))
    (fun os started H enc _ => lifted_FnExactJobsValid os started H enc)
end Go.Proofs.Ytpofkkenbepjpaa
