/-
  FnCreditsFull: for every argument the law of how many slots frames need returns true and writes nothing that was there. No condition.
-/
import Derived.Test.YtkdjcfejkgpplaaDrawCred
import Derived.Test.YtkdjcfejkgpplaaCredC
import Derived.Test.YtkdjcfejkgpplaaImp13e
import Derived.Test.YtkdjcfejkgpplaaMathCredC
import Derived.Test.YtkdjcfejkgpplaaShut
import Derived.BigQuiet
namespace Go.Proofs.Ytkdjcfejkgpplaa
open Go.RowKit Go.ChangeShapes Go.WideShapes Go.ChangeAt

set_option maxRecDepth 100000 in
set_option maxHeartbeats 8000000 in
theorem walk_FnCreditsFull {A : Option Addr} {n c : Nat} {zs : List Int} {w : World} (h : Has w A n (ints .u8 zs)) (hwf : ∀ z ∈ zs, (Lit.int .u8 z).wf = true) (hc : n ≤ c ∧ c ≤ maxLen) :
    Calls Try.prog 5 #[.slice A n c] w fun e w' => e = .returned (.bool true) ∧ Below w.heap.size w w' := by
  have hu : U8s zs := fun z hz => u8_of_wf (hwf z hz)
  clear hwf
  by_cases hn : n ≤ 1048576
  rotate_left
  · go_enter Try.func5, Try.ntmps5
    go_wp2
    go_ret
    exact ⟨rfl, Below.refl _ _⟩
  go_enter Try.func5, Try.ntmps5
  go_wp2_with (fail)
  refine (drawCreditSlots_any h hu hc).mono ?_
  rintro e w1 ⟨a, d, m, rfl, B1⟩
  obtain ⟨r, hr⟩ : ∃ r, slotsI a d m = r := ⟨_, rfl⟩
  have CI := Lib.hid (implCreditSlots_any (w := w1) hr)
  have CS := Lib.hid (fun W : World => specCreditSlots_any (w := W) hr)
  have rB : (r != r) = false := by simp
  have rE : (r == r) = true := by simp
  have hor := slots_or a d m
  rw [hr] at hor
  by_cases h0 : 0 ≤ r
  rotate_left
  · obtain rfl : r = -1 := by omega
    clear h0 hor hr
    go_wp2_with (fail)
    refine CI.out.mono ?_
    rintro e w2 ⟨rfl, B2⟩
    go_wp2_with (fail)
    refine (CS.out _).mono ?_
    rintro e w3 ⟨rfl, B3⟩
    go_wp2_with (fail)
    refine (CS.out _).mono ?_
    rintro e w4 ⟨rfl, B4⟩
    go_wp2
    go_ret
    exact ⟨rfl, bel_trans (bel_trans (bel_trans B1 B2) B3) B4⟩
  obtain ⟨⟨g1, g2, g3⟩, g4, g5, g6, g7⟩ := slots_full hr h0
  have r0 : decide (r < 0) = false := decide_eq_false (by omega)
  by_cases hm : m = 0
  · obtain rfl : r = 0 := g5 hm
    subst hm
    clear hor hr g1 g2 g3 g4 g5 g6 g7
    go_wp2_with (fail)
    refine CI.out.mono ?_
    rintro e w2 ⟨rfl, B2⟩
    go_wp2_with (fail)
    refine (CS.out _).mono ?_
    rintro e w3 ⟨rfl, B3⟩
    go_wp2
    go_ret
    exact ⟨rfl, bel_trans (bel_trans B1 B2) B3⟩
  have mB : (m == 0) = false := by simp [hm]
  have hm1 : 1 ≤ m := by omega
  have CR := Lib.hid (fun W : World => implRoomFor_any (d := d) (w := W))
  obtain ⟨e2, he2⟩ : ∃ e2, 2 * d = e2 := ⟨_, rfl⟩
  have hri : roomI d = e2 := by rw [← he2]; exact if_pos g2
  rw [hri] at CR
  have g6' := g6 hm1
  have g7' := g7 hm1
  rw [he2] at g6' g7'
  have v1 : IntKind.i64.wrap (m + d) = m + d := IntWalk.i64_in _ (by omega)
  have n1 : -9223372036854775808 ≤ m + d ∧ m + d ≤ 9223372036854775807 := by omega
  by_cases hge : e2 ≤ a
  · have aB : decide (a ≥ e2) = true := decide_eq_true hge
    have aB2 : decide (e2 ≤ a) = true := decide_eq_true hge
    have eB : (r == m + d) = true := by rw [g6' hge]; simp
    clear hor hr g1 g2 g3 g5 g6 g7 g6' g7' hm he2 hri hge h0
    go_wp2_with (fail)
    refine CI.out.mono ?_
    rintro e w2 ⟨rfl, B2⟩
    go_wp2_with (fail)
    refine (CS.out _).mono ?_
    rintro e w3 ⟨rfl, B3⟩
    go_wp2_with (fail)
    refine (CR.out _).mono ?_
    rintro e w' ⟨rfl, rfl⟩
    go_wp2
    go_ret
    exact ⟨rfl, bel_trans (bel_trans B1 B2) B3⟩
  · have aB : decide (a ≥ e2) = false := decide_eq_false hge
    have aB2 : decide (e2 ≤ a) = false := decide_eq_false hge
    obtain ⟨g8, g9⟩ := g7' (by omega)
    have l1 : decide (r ≥ m + d) = true := decide_eq_true g8
    have l2 : decide (m + d ≤ r) = true := decide_eq_true g8
    obtain ⟨p, hp⟩ : ∃ p, m - 1 = p := ⟨_, rfl⟩
    have v2 : IntKind.i64.wrap (m - 1) = p := by rw [hp]; exact IntWalk.i64_in _ (by omega)
    rw [hp] at g9
    have hdiv : Int.tdiv p a = p / a := Int.tdiv_eq_ediv_of_nonneg (by omega)
    have hmod : Int.tmod p a = p % a := Int.tmod_eq_emod_of_nonneg (by omega)
    have b1 : 0 ≤ p / a := Int.ediv_nonneg (by omega) (by omega)
    have b2 : p / a ≤ p := Int.ediv_le_self _ (by omega)
    have b3 : 0 ≤ p % a := Int.emod_nonneg _ (by omega)
    have b4 : p % a < a := Int.emod_lt_of_pos _ (by omega)
    obtain ⟨x, hx⟩ : ∃ x, p / a = x := ⟨_, rfl⟩
    obtain ⟨y, hy⟩ : ∃ y, p % a = y := ⟨_, rfl⟩
    rw [hx] at hdiv b1 b2 g9
    rw [hy] at hmod b3 b4 g9
    have b5 : 0 ≤ x * e2 := Int.mul_nonneg b1 (by omega)
    obtain ⟨z, hz⟩ : ∃ z, x * e2 = z := ⟨_, rfl⟩
    rw [hz] at b5 g9
    have v3 : IntKind.i64.wrap x = x := IntWalk.i64_in _ (by omega)
    have v4 : IntKind.i64.wrap (x * e2) = z := by rw [hz]; exact IntWalk.i64_in _ (by omega)
    have v5 : IntKind.i64.wrap (z + d) = z + d := IntWalk.i64_in _ (by omega)
    have v6 : IntKind.i64.wrap (z + d + 1) = z + d + 1 := IntWalk.i64_in _ (by omega)
    have v7 : IntKind.i64.wrap (z + d + 1 + y) = z + d + 1 + y := IntWalk.i64_in _ (by omega)
    have v8 : IntKind.i64.wrap y = y := IntWalk.i64_in _ (by omega)
    have l3 : decide (r ≥ z + d + 1 + y) = true := decide_eq_true (by omega)
    have l4 : decide (z + d + 1 + y ≤ r) = true := decide_eq_true (by omega)
    have a0 : (a == 0) = false := by simp; omega
    have a0' : a ≠ 0 := by omega
    clear hor hr g1 g2 g3 g5 g6 g7 g6' g7' hm he2 hri hge h0 g8 g9 hx hy hz b1 b2 b3 b4 b5 hp
    go_wp2_with (fail)
    refine CI.out.mono ?_
    rintro e w2 ⟨rfl, B2⟩
    go_wp2_with (fail)
    refine (CS.out _).mono ?_
    rintro e w3 ⟨rfl, B3⟩
    go_wp2_with (fail)
    refine (CR.out _).mono ?_
    rintro e w' ⟨rfl, rfl⟩
    go_wp2
    go_quiet (fail)
    go_wp2
    go_ret
    exact ⟨rfl, bel_trans (bel_trans (bel_trans B1 B2) B3) (below_drewN _ _)⟩
set_option maxRecDepth 100000 in
theorem lifted_FnCreditsFull (os : Os) (started : os.Started) (H : Type) (enc : TypeId × Value → H) :
    ReturnsInHanded {} Try.checked os 5 .any (Rows.fnCreditsFullSpec.pre6 enc Try.prog Try.f5 Rows.fnCreditsFullRow.domain false) (Rows.fnCreditsFullSpec.post enc Try.prog Try.f5 false true false false) := by
  refine returnsInHanded_of_change (C := Try.checked) (by kernel_rfl) started (by kernel_rfl) Try.func5
    (ChangeSpec.witness6 (enc := enc) (C := Try.checked) false ⟨#[], #[.slice none 0 0], []⟩ 8 (by kernel_rfl) (by kernel_rfl) (by kernel_rfl) (by kernel_rfl)) ?_
  intro W base args ds gs before hval0 hW hcnd _
  have hval : ∀ (j : Nat) t v, Try.f5.params[j]? = some t → args[j]? = some v → Value.okWide Try.prog W .any base t v := hval0
  have hW' := hW
  obtain ⟨p, q, hA0, hV, rfl, hfz, hnd⟩ := hW
  have hA : DataW.TrodAll enc Try.prog W 0 (fun _ => true) true Try.f5.params.toList args.toList ds p := hA0
  rw [Try.params5] at hA hval
  obtain ⟨v0, vs0, d0, ds0, p0, q0, hargs, rfl, rfl, h0, r0⟩ := trodAll_cons hA
  obtain ⟨rfl, rfl, rfl⟩ := trodAll_nil r0
  obtain rfl : args = #[v0] := by cases args; simp_all
  obtain ⟨rfl, rfl⟩ := trodVars_none hV
  obtain ⟨a0, len0, cap0, rfl⟩ := okWide_slice Try.underlying22 (hval 0 22 v0 rfl rfl)
  have k0 := h0
  have lt0 : ∀ x ∈ p0, x.block < W.heap.size := by obtain ⟨m, hm⟩ := k0; exact DataW.trod_lt m _ _ _ hm
  obtain ⟨z0, H0, U0, M0⟩ := has_of_trod (k := .u8) Try.underlying22 Try.underlying5 (by kernel_rfl) h0
  clear hA0 hval0
  refine (walk_FnCreditsFull H0 U0 M0).mono fun e W' ⟨he, bel⟩ => ?_
  subst he
  exact ⟨_, rfl, _, _, _, [], _, [], hW', trodAll_mk1 (shut_bool Try.underlying4 _), (trodAll_cons_mk (Below.trod (by kernel_rfl) (by kernel_rfl) (of_decide_eq_true (by kernel_rfl)) k0 bel lt0) trodAll_mk0), rfl, bel.frame _, fun h => by cases h⟩

theorem fnCreditsFull_holds : Rows.FnCreditsFullSaid :=
  OpenClaim.holds_of_wide 5 Try.f5 rfl rfl rfl rfl rfl rfl rfl ⟨rfl, rfl, rfl, rfl, rfl⟩ rfl rfl rfl rfl rfl (by kernel_rfl) Try.func5
    (by unfold joinedFacts; with_reducible refine Bool.and_eq_true_iff.2 ⟨?_, (by as_aux_lemma => kernel_rfl)⟩; with_reducible refine Bool.and_eq_true_iff.2 ⟨?_, (by as_aux_lemma => kernel_rfl)⟩; with_reducible refine Bool.and_eq_true_iff.2 ⟨?_, (by as_aux_lemma => kernel_rfl)⟩; with_reducible refine Bool.and_eq_true_iff.2 ⟨?_, (by as_aux_lemma => kernel_rfl)⟩; with_reducible refine Bool.and_eq_true_iff.2 ⟨?_, (by with_unfolding_all exact shutMake)⟩; with_reducible refine Bool.and_eq_true_iff.2 ⟨?_, (by with_unfolding_all exact shutLifts)⟩; with_reducible refine Bool.and_eq_true_iff.2 ⟨?_, shutEnter⟩; (repeat (with_reducible refine Bool.and_eq_true_iff.2 ⟨?_, (by as_aux_lemma => kernel_rfl)⟩)); as_aux_lemma => kernel_rfl)
    (of_decide_eq_true (by kernel_rfl)) (by unfold Func.isWrapper; first | (rw [if_pos (by decide +kernel)]; kernel_rfl) | (rw [if_neg (by decide +kernel)]; exact ⟨rfl, rfl⟩))
    (fun os started H enc _ => lifted_FnCreditsFull os started H enc)
end Go.Proofs.Ytkdjcfejkgpplaa
