/-
  FnOpen: for every argument the law that open slots are counted part by part returns true and writes nothing that was there. No condition.
-/
import Derived.Test.YtkdjcfejkgpplaaDrawCred
import Derived.Test.YtkdjcfejkgpplaaCredC
import Derived.Test.YtkdjcfejkgpplaaImp13a
import Derived.Test.YtkdjcfejkgpplaaMathCredC
import Derived.Test.YtkdjcfejkgpplaaShut
namespace Go.Proofs.Ytkdjcfejkgpplaa
open Go.RowKit Go.ChangeShapes Go.WideShapes Go.ChangeAt

set_option maxRecDepth 100000 in
set_option maxHeartbeats 8000000 in
theorem walk_FnOpen {A : Option Addr} {n c : Nat} {zs : List Int} {w : World} (h : Has w A n (ints .u8 zs)) (hwf : ∀ z ∈ zs, (Lit.int .u8 z).wf = true) (hc : n ≤ c ∧ c ≤ maxLen) :
    Calls Try.prog 7 #[.slice A n c] w fun e w' => e = .returned (.bool true) ∧ Below w.heap.size w w' := by
  have hu : U8s zs := fun z hz => u8_of_wf (hwf z hz)
  clear hwf
  by_cases hn : n ≤ 1048576
  rotate_left
  · go_enter Try.func7, Try.ntmps7
    go_wp2
    go_ret
    exact ⟨rfl, Below.refl _ _⟩
  go_enter Try.func7, Try.ntmps7
  go_wp2_with (fail)
  refine (drawOpenSlots_any h hu hc).mono ?_
  rintro e w1 ⟨D, q, c1, ds, f, k, rfl, H1, hq, hf, hk, B1⟩
  obtain ⟨r, hr⟩ : ∃ r, openI ds f k = r := ⟨_, rfl⟩
  have CI := Lib.hid (implOpenSlots_any (c := c1) H1 (by omega) hr)
  have CS := Lib.hid (specOpenSlots_any (c := c1) H1 (by omega) hr)
  have rB : (r != r) = false := by simp
  have rE : (r == r) = true := by simp
  have hor := open_or ds f k
  rw [hr] at hor
  by_cases h0 : 0 ≤ r
  rotate_left
  · obtain rfl : r = -1 := by omega
    clear h0 hor hr hf hk
    go_wp2_with (fail)
    refine CI.out.mono ?_
    rintro e w' ⟨rfl, rfl⟩
    go_wp2_with (fail)
    refine CS.out.mono ?_
    rintro e w' ⟨rfl, rfl⟩
    go_wp2_with (fail)
    refine CS.out.mono ?_
    rintro e w' ⟨rfl, rfl⟩
    go_wp2
    go_ret
    exact ⟨rfl, B1⟩
  obtain ⟨g1, g2, g3, g4, g4', g5⟩ := open_parts hr h0
  have r0 : decide (r < 0) = false := decide_eq_false (by omega)
  obtain ⟨j, hj⟩ : ∃ j, k / 3 = j := ⟨_, rfl⟩
  have hj2 : Int.tdiv k 3 = j := by rw [Int.tdiv_eq_ediv_of_nonneg g2.1]; exact hj
  rw [hj] at g4 g4' g5
  have hjb : 0 ≤ j ∧ j ≤ k := by omega
  obtain ⟨a, ha⟩ : ∃ a, openI ds f j = a := ⟨_, rfl⟩
  rw [ha] at g4 g4' g5
  have C2 := Lib.hid (implOpenSlots_any (c := c1) H1 (by omega) ha)
  obtain ⟨i, hi⟩ : ∃ i, f + j = i := ⟨_, rfl⟩
  rw [hi] at g5
  have v2 : IntKind.i64.wrap (f + j) = i := by rw [hi]; exact IntWalk.i64_in _ (by omega)
  have v3 : IntKind.i64.wrap (r - a) = r - a := IntWalk.i64_in _ (by omega)
  have n1 : -9223372036854775808 ≤ r - a ∧ r - a ≤ 9223372036854775807 := by omega
  have v4 : IntKind.i64.wrap (a + (r - a)) = r := by rw [show a + (r - a) = r by omega]; exact IntWalk.i64_in _ (by omega)
  have v5 : a + (r - a) = r := by omega
  have rk : decide (r ≤ k) = true := decide_eq_true g3
  by_cases hle : i ≤ 3000
  · have iB : decide (i ≤ 3000) = true := decide_eq_true hle
    obtain ⟨k', hk'⟩ : ∃ k', k - j = k' := ⟨_, rfl⟩
    have g6 := g5 hle
    rw [hk'] at g6
    obtain ⟨b, hb⟩ : ∃ b, openI ds i k' = b := ⟨_, rfl⟩
    rw [hb] at g6
    have C3 := Lib.hid (implOpenSlots_any (c := c1) H1 (by omega) hb)
    have v6 : IntKind.i64.wrap (k - j) = k' := by rw [hk']; exact IntWalk.i64_in _ (by omega)
    have v7 : IntKind.i64.wrap (a + b) = r := by rw [g6]; exact IntWalk.i64_in _ (by omega)
    have n2 : -9223372036854775808 ≤ k - j ∧ k - j ≤ 9223372036854775807 := by omega
    have n3 : -9223372036854775808 ≤ f + j ∧ f + j ≤ 9223372036854775807 := by omega
    have n4 : -9223372036854775808 ≤ a + b ∧ a + b ≤ 9223372036854775807 := by omega
    clear hor hr hj ha hb g5 hle
    go_wp2_with (fail)
    refine CI.out.mono ?_
    rintro e w' ⟨rfl, rfl⟩
    go_wp2_with (fail)
    refine CS.out.mono ?_
    rintro e w' ⟨rfl, rfl⟩
    go_wp2_with (fail)
    refine C2.out.mono ?_
    rintro e w' ⟨rfl, rfl⟩
    go_wp2_with (fail)
    refine C3.out.mono ?_
    rintro e w' ⟨rfl, rfl⟩
    go_wp2
    go_ret
    exact ⟨rfl, B1⟩
  · have iB : decide (i ≤ 3000) = false := decide_eq_false hle
    have n3 : -9223372036854775808 ≤ f + j ∧ f + j ≤ 9223372036854775807 := by omega
    clear hor hr hj ha g5 hle
    go_wp2_with (fail)
    refine CI.out.mono ?_
    rintro e w' ⟨rfl, rfl⟩
    go_wp2_with (fail)
    refine CS.out.mono ?_
    rintro e w' ⟨rfl, rfl⟩
    go_wp2_with (fail)
    refine C2.out.mono ?_
    rintro e w' ⟨rfl, rfl⟩
    go_wp2
    go_ret
    exact ⟨rfl, B1⟩
set_option maxRecDepth 100000 in
theorem lifted_FnOpen (os : Os) (started : os.Started) (H : Type) (enc : TypeId × Value → H) :
    ReturnsInHanded {} Try.checked os 7 .any (Rows.fnOpenSpec.pre6 enc Try.prog Try.f7 Rows.fnOpenRow.domain false) (Rows.fnOpenSpec.post enc Try.prog Try.f7 false true false false) := by
  refine returnsInHanded_of_change (C := Try.checked) (by kernel_rfl) started (by kernel_rfl) Try.func7
    (ChangeSpec.witness6 (enc := enc) (C := Try.checked) false ⟨#[], #[.slice none 0 0], []⟩ 8 (by kernel_rfl) (by kernel_rfl) (by kernel_rfl) (by kernel_rfl)) ?_
  intro W base args ds gs before hval0 hW hcnd _
  have hval : ∀ (j : Nat) t v, Try.f7.params[j]? = some t → args[j]? = some v → Value.okWide Try.prog W .any base t v := hval0
  have hW' := hW
  obtain ⟨p, q, hA0, hV, rfl, hfz, hnd⟩ := hW
  have hA : DataW.TrodAll enc Try.prog W 0 (fun _ => true) true Try.f7.params.toList args.toList ds p := hA0
  rw [Try.params7] at hA hval
  obtain ⟨v0, vs0, d0, ds0, p0, q0, hargs, rfl, rfl, h0, r0⟩ := trodAll_cons hA
  obtain ⟨rfl, rfl, rfl⟩ := trodAll_nil r0
  obtain rfl : args = #[v0] := by cases args; simp_all
  obtain ⟨rfl, rfl⟩ := trodVars_none hV
  obtain ⟨a0, len0, cap0, rfl⟩ := okWide_slice Try.underlying22 (hval 0 22 v0 rfl rfl)
  have k0 := h0
  have lt0 : ∀ x ∈ p0, x.block < W.heap.size := by obtain ⟨m, hm⟩ := k0; exact DataW.trod_lt m _ _ _ hm
  obtain ⟨z0, H0, U0, M0⟩ := has_of_trod (k := .u8) Try.underlying22 Try.underlying5 (by kernel_rfl) h0
  clear hA0 hval0
  refine (walk_FnOpen H0 U0 M0).mono fun e W' ⟨he, bel⟩ => ?_
  subst he
  exact ⟨_, rfl, _, _, _, [], _, [], hW', trodAll_mk1 (shut_bool Try.underlying4 _), (trodAll_cons_mk (Below.trod (by kernel_rfl) (by kernel_rfl) (of_decide_eq_true (by kernel_rfl)) k0 bel lt0) trodAll_mk0), rfl, bel.frame _, fun h => by cases h⟩

theorem fnOpen_holds : Rows.FnOpenSaid :=
  OpenClaim.holds_of_wide 7 Try.f7 rfl rfl rfl rfl rfl rfl rfl ⟨rfl, rfl, rfl, rfl, rfl⟩ rfl rfl rfl rfl rfl (by kernel_rfl) Try.func7
    (by unfold joinedFacts; with_reducible refine Bool.and_eq_true_iff.2 ⟨?_, (by as_aux_lemma => kernel_rfl)⟩; with_reducible refine Bool.and_eq_true_iff.2 ⟨?_, (by as_aux_lemma => kernel_rfl)⟩; with_reducible refine Bool.and_eq_true_iff.2 ⟨?_, (by as_aux_lemma => kernel_rfl)⟩; with_reducible refine Bool.and_eq_true_iff.2 ⟨?_, (by as_aux_lemma => kernel_rfl)⟩; with_reducible refine Bool.and_eq_true_iff.2 ⟨?_, (by with_unfolding_all exact shutMake)⟩; with_reducible refine Bool.and_eq_true_iff.2 ⟨?_, (by with_unfolding_all exact shutLifts)⟩; with_reducible refine Bool.and_eq_true_iff.2 ⟨?_, shutEnter⟩; (repeat (with_reducible refine Bool.and_eq_true_iff.2 ⟨?_, (by as_aux_lemma => kernel_rfl)⟩)); as_aux_lemma => kernel_rfl)
    (of_decide_eq_true (by kernel_rfl)) (by unfold Func.isWrapper; first | (rw [if_pos (by decide +kernel)]; kernel_rfl) | (rw [if_neg (by decide +kernel)]; exact ⟨rfl, rfl⟩))
    (fun os started H enc _ => lifted_FnOpen os started H enc)
end Go.Proofs.Ytkdjcfejkgpplaa
