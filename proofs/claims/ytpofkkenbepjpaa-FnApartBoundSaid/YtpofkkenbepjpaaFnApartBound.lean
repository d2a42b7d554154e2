/-
  FnApartBound: for every argument the law of how far two classes may be apart returns true and writes nothing that was there. No condition.
-/
import Derived.Test.YtpofkkenbepjpaaDrawJob
import Derived.Test.YtpofkkenbepjpaaImp12a
import Derived.Test.YtpofkkenbepjpaaShut
namespace Go.Proofs.Ytpofkkenbepjpaa
open Go.RowKit Go.ChangeShapes Go.WideShapes Go.ChangeAt

set_option maxRecDepth 100000 in
set_option maxHeartbeats 8000000 in
theorem walk_FnApartBound {A : Option Addr} {n c : Nat} {zs : List Int} {w : World} (h : Has w A n (ints .u8 zs)) (hwf : ∀ z ∈ zs, (Lit.int .u8 z).wf = true) (hc : n ≤ c ∧ c ≤ maxLen) :
    Calls Try.prog 8 #[.slice A n c] w fun e w' => e = .returned (.bool true) ∧ Below w.heap.size w w' := by
  have hu : U8s zs := fun z hz => u8_of_wf (hwf z hz)
  clear hwf
  by_cases hn : n ≤ 1048576
  rotate_left
  · go_enter Try.func8, Try.ntmps8
    go_wp2
    go_ret
    exact ⟨rfl, Below.refl _ _⟩
  go_enter Try.func8, Try.ntmps8
  go_wp2_with (fail)
  refine (drawApartBound_any h hu hc).mono ?_
  rintro e w1 ⟨A1, n1, c1, ws, a, b, rfl, H1, hn1, B1⟩
  obtain ⟨R, hR⟩ : ∃ R, apartL ws a b = R := ⟨_, rfl⟩
  have HL := Lib.hid H1.len
  have rE : (R == R) = true := by simp
  have rB : (R != R) = false := by simp
  go_wp2_with (fail)
  refine (implApartBound_r H1 (by omega) hR).mono ?_
  rintro e w2 ⟨rfl, B2⟩
  have C2 := bel_trans B1 B2
  have H2 := H1.bel B2
  go_wp2_with (fail)
  refine (specApartBound_r H2 (by omega) hR).mono ?_
  rintro e w3 ⟨rfl, B3⟩
  have C3 := bel_trans C2 B3
  have H3 := H2.bel B3
  by_cases hok : wtOk ws ∧ (0 ≤ a ∧ a < (ws.length : Int)) ∧ (0 ≤ b ∧ b < (ws.length : Int))
  rotate_left
  · obtain rfl : R = -1 := by rw [← hR]; exact if_neg hok
    clear hok
    go_wp2_with (fail)
    refine (specApartBound_r H3 (by omega) hR).mono ?_
    rintro e w4 ⟨rfl, B4⟩
    go_wp2
    go_ret
    exact ⟨rfl, bel_trans C3 B4⟩
  obtain ⟨hw, ha, hb⟩ := hok
  obtain ⟨a', rfl⟩ := Int.eq_ofNat_of_zero_le ha.1
  obtain ⟨b', rfl⟩ := Int.eq_ofNat_of_zero_le hb.1
  have hla : a' < n1 := by have := HL.out; omega
  have hlb : b' < n1 := by have := HL.out; omega
  have xa := dw_ok hw (c := a') (by omega)
  have xb := dw_ok hw (c := b') (by omega)
  have hR1 : R = 9 * dw ws a' * dw ws b' + 8 * dw ws a' := by rw [← hR]; unfold apartL; rw [if_pos ⟨hw, ha, hb⟩]; simp
  have hR2 : apartL ws (b' : Int) (a' : Int) = 9 * dw ws b' * dw ws a' + 8 * dw ws b' := by unfold apartL; rw [if_pos ⟨hw, hb, ha⟩]; simp
  obtain ⟨S, hS⟩ : ∃ S, apartL ws (b' : Int) (a' : Int) = S := ⟨_, rfl⟩
  have m1 : 0 ≤ dw ws a' * dw ws b' := Int.mul_nonneg (by omega) (by omega)
  have m2 : 9 * dw ws a' * dw ws b' = 9 * (dw ws a' * dw ws b') := Int.mul_assoc ..
  have m3 : 9 * dw ws b' * dw ws a' = 9 * (dw ws a' * dw ws b') := by rw [Int.mul_assoc, Int.mul_comm (dw ws b')]
  have r0 : decide (R < 0) = false := by simp; omega
  have HRS := Lib.hid (show R - S = 8 * (dw ws a' - dw ws b') by rw [hS] at hR2; omega)
  clear hR1 hR2 m1 m2 m3
  have HS := Lib.hid hS
  clear hS
  go_wp2_with (fail)
  refine (implApartBound_r H3 (by omega) HS.out).mono ?_
  rintro e w4 ⟨rfl, B4⟩
  have C4 := bel_trans C3 B4
  have H4 := H3.bel B4
  obtain ⟨g, o, rfl, hbl, ca⟩ := has_dw H4 hla
  obtain ⟨g', o', hgo, _, cb⟩ := has_dw H4 hlb
  injection hgo with hgo
  injection hgo with e1 e2
  subst e1 e2
  have ia0 : (0 : Int) ≤ (a' : Int) := by omega
  have ia1 : (a' : Int) < (n1 : Int) := by omega
  have ib0 : (0 : Int) ≤ (b' : Int) := by omega
  have ib1 : (b' : Int) < (n1 : Int) := by omega
  clear hR HS
  generalize dw ws a' = x at *
  generalize dw ws b' = y at *
  clear hw ha hb rE rB
  rcases Int.lt_trichotomy x y with hxy | hxy | hxy
  · have f1 : decide (R > S) = false := by have := HRS.out; simp; omega
    have f2 : decide (S < R) = false := by have := HRS.out; simp; omega
    have f3 : decide (x > y) = false := by simp; omega
    have f4 : decide (y < x) = false := by simp; omega
    have f5 : (R == S) = false := by have := HRS.out; simp; omega
    have f6 : (x == y) = false := by simp; omega
    clear hxy xa xb
    go_wp2
    go_quiet (fail)
    go_wp2
    go_ret
    exact ⟨rfl, C4.trans (below_drewN _ _)⟩
  · subst hxy
    have hRS : R = S := by have := HRS.out; omega
    subst hRS
    have f1 : decide (R > R) = false := by simp
    have f2 : decide (R < R) = false := by simp
    have f3 : decide (x > x) = false := by simp
    have f4 : decide (x < x) = false := by simp
    have f5 : (R == R) = true := by simp
    have f6 : (x == x) = true := by simp
    clear xa xb
    go_wp2
    go_quiet (fail)
    go_wp2
    go_ret
    exact ⟨rfl, C4.trans (below_drewN _ _)⟩
  · have f1 : decide (R > S) = true := by have := HRS.out; simp; omega
    have f2 : decide (S < R) = true := by have := HRS.out; simp; omega
    have f3 : decide (x > y) = true := by simp; omega
    have f4 : decide (y < x) = true := by simp; omega
    have f5 : (R == S) = false := by have := HRS.out; simp; omega
    have f6 : (x == y) = false := by simp; omega
    clear hxy xa xb
    go_wp2
    go_quiet (fail)
    go_wp2
    go_ret
    exact ⟨rfl, C4.trans (below_drewN _ _)⟩
set_option maxRecDepth 100000 in
theorem lifted_FnApartBound (os : Os) (started : os.Started) (H : Type) (enc : TypeId × Value → H) :
    ReturnsInHanded {} Try.checked os 8 .any (Rows.fnApartBoundSpec.pre6 enc Try.prog Try.f8 Rows.fnApartBoundRow.domain false) (Rows.fnApartBoundSpec.post enc Try.prog Try.f8 false true false false) := by
  refine returnsInHanded_of_change (C := Try.checked) (by kernel_rfl) started (by kernel_rfl) Try.func8
    (ChangeSpec.witness6 (enc := enc) (C := Try.checked) false ⟨#[], #[.slice none 0 0], []⟩ 8 (by kernel_rfl) (by kernel_rfl) (by kernel_rfl) (by kernel_rfl)) ?_
  intro W base args ds gs before hval0 hW hcnd _
  have hval : ∀ (j : Nat) t v, Try.f8.params[j]? = some t → args[j]? = some v → Value.okWide Try.prog W .any base t v := hval0
  have hW' := hW
  obtain ⟨p, q, hA0, hV, rfl, hfz, hnd⟩ := hW
  have hA : DataW.TrodAll enc Try.prog W 0 (fun _ => true) true Try.f8.params.toList args.toList ds p := hA0
  rw [Try.params8] at hA hval
  obtain ⟨v0, vs0, d0, ds0, p0, q0, hargs, rfl, rfl, h0, r0⟩ := trodAll_cons hA
  obtain ⟨rfl, rfl, rfl⟩ := trodAll_nil r0
  obtain rfl : args = #[v0] := by cases args; simp_all
  obtain ⟨rfl, rfl⟩ := trodVars_none hV
  obtain ⟨a0, len0, cap0, rfl⟩ := okWide_slice Try.underlying22 (hval 0 22 v0 rfl rfl)
  have k0 := h0
  have lt0 : ∀ x ∈ p0, x.block < W.heap.size := by obtain ⟨m, hm⟩ := k0; exact DataW.trod_lt m _ _ _ hm
  obtain ⟨z0, H0, U0, M0⟩ := has_of_trod (k := .u8) Try.underlying22 Try.underlying5 (by kernel_rfl) h0
  clear hA0 hval0
  refine (walk_FnApartBound H0 U0 M0).mono fun e W' ⟨he, bel⟩ => ?_
  subst he
  exact ⟨_, rfl, _, _, _, [], _, [], hW', trodAll_mk1 (shut_bool Try.underlying4 _), (trodAll_cons_mk (Below.trod (by kernel_rfl) (by kernel_rfl) (of_decide_eq_true (by kernel_rfl)) k0 bel lt0) trodAll_mk0), rfl, bel.frame _, fun h => by cases h⟩

theorem fnApartBound_holds : Rows.FnApartBoundSaid :=
  OpenClaim.holds_of_wide 8 Try.f8 rfl rfl rfl rfl rfl rfl rfl ⟨rfl, rfl, rfl, rfl, rfl⟩ rfl rfl rfl rfl rfl (by kernel_rfl) Try.func8
    (by unfold joinedFacts; with_reducible refine Bool.and_eq_true_iff.2 ⟨?_, (by as_aux_lemma => kernel_rfl)⟩; with_reducible refine Bool.and_eq_true_iff.2 ⟨?_, (by as_aux_lemma => kernel_rfl)⟩; with_reducible refine Bool.and_eq_true_iff.2 ⟨?_, (by as_aux_lemma => kernel_rfl)⟩; with_reducible refine Bool.and_eq_true_iff.2 ⟨?_, (by as_aux_lemma => kernel_rfl)⟩; with_reducible refine Bool.and_eq_true_iff.2 ⟨?_, (by with_unfolding_all exact shutMake)⟩; with_reducible refine Bool.and_eq_true_iff.2 ⟨?_, (by with_unfolding_all exact shutLifts)⟩; with_reducible refine Bool.and_eq_true_iff.2 ⟨?_, shutEnter⟩; (repeat (with_reducible refine Bool.and_eq_true_iff.2 ⟨?_, (by as_aux_lemma => kernel_rfl)⟩)); as_aux_lemma => kernel_rfl)
    (of_decide_eq_true (by kernel_rfl)) (by unfold Func.isWrapper; first | (rw [if_pos (by decide +kernel)]; kernel_rfl) | (rw [if_neg (by decide +kernel)]; exact ⟨rfl, rfl⟩))
    (fun os started H enc _ => lifted_FnApartBound os started H enc)
end Go.Proofs.Ytpofkkenbepjpaa
