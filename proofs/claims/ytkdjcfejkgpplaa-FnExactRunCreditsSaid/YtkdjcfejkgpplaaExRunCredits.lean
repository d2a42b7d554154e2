/-
  FnExactRunCredits: for every argument the exact law of RunCredits returns true and writes nothing that was there. No condition.
-/
import Derived.Test.YtkdjcfejkgpplaaCredC
import Derived.Test.YtkdjcfejkgpplaaImp13e
import Derived.Test.YtkdjcfejkgpplaaCredL
import Derived.Test.YtkdjcfejkgpplaaShut
namespace Go.Proofs.Ytkdjcfejkgpplaa
open Go.RowKit Go.ChangeShapes Go.WideShapes Go.ChangeAt

set_option maxHeartbeats 8000000 in
set_option maxRecDepth 100000 in
theorem walk_FnExactRunCredits {a0 a1 a2 a4 : Int} {A3 : Option Addr} {n3 c3 : Nat} {zs3 : List Int} {w : World} (_ : -9223372036854775808 ≤ a0 ∧ a0 ≤ 9223372036854775807) (_ : -9223372036854775808 ≤ a1 ∧ a1 ≤ 9223372036854775807) (_ : -9223372036854775808 ≤ a2 ∧ a2 ≤ 9223372036854775807) (h3 : Has w A3 n3 (ints .i64 zs3)) (_ : ∀ z ∈ zs3, (Lit.int .i64 z).wf = true) (_ : n3 ≤ c3 ∧ c3 ≤ maxLen) (_ : -9223372036854775808 ≤ a4 ∧ a4 ≤ 9223372036854775807) :
    Calls Try.prog 9 #[.int .i64 a0, .int .i64 a1, .int .i64 a2, .slice A3 n3 c3, .int .i64 a4] w fun e w' => e = .returned (.bool true) ∧ Below w.heap.size w w' := by
  by_cases hn3 : n3 ≤ 1048576
  rotate_left
  · go_enter Try.func9, Try.ntmps9
    go_wp2
    go_ret
    exact ⟨rfl, Below.refl _ _⟩
  obtain ⟨R, hR⟩ : ∃ R, credI a0 a1 a2 zs3 a4 = R := ⟨_, rfl⟩
  obtain ⟨ok, hok⟩ : ∃ ok, decide (credOk a0 a1 a2 zs3 a4) = ok := ⟨_, rfl⟩
  have SP := Lib.hid (fun (A : Option Addr) (n c : Nat) (W : World) (h : Has W A n (ints .i64 zs3)) (hn : n ≤ 16777216) => specRunCredits_any (e := c) h hn hR hok)
  have IM := Lib.hid (fun (A : Option Addr) (n c : Nat) (W : World) (h : Has W A n (ints .i64 zs3)) (hn : n ≤ 16777216) => implRunCredits_any (e := c) h hn hR hok)
  obtain ⟨rs, rk, rm, rt, rf⟩ := R
  unfold crV at SP IM
  dsimp only at SP IM
  have hokB : (ok != ok) = false := by simp
  clear hR hok
  go_enter Try.func9, Try.ntmps9
  go_wp2_with (fail)
  refine (toIntS_any h3 (by omega)).mono ?_
  rintro e w1 ⟨g1, rfl, O1, B1⟩
  go_wp2_with (fail)
  refine (SP.out _ _ _ _ O1.has (by omega)).mono ?_
  rintro e w2 ⟨rfl, B2⟩
  have C2 := bel_trans B1 B2
  obtain ⟨w3, hw3⟩ : ∃ W, w2.alloc (.cells #[.int .i64 (rs : Int), .int .i64 (rk : Int), .int .i64 (rm : Int), .int .i64 (rt : Int), .bool rf] 27) = W := ⟨_, rfl⟩
  have K3 : CrRow w3 w2.heap.size rs rk rm rt rf := hw3 ▸ crRow_alloc w2 _ _ _ _ _
  have C3 := bel_trans C2 (hw3 ▸ below_alloc13 w2 _ : Below w2.heap.size w2 w3)
  clear O1 B1 B2 C2
  go_wp2_with (fail)
  refine (toIntS_any (h3.bel C3) (by omega)).mono ?_
  rintro e w4 ⟨g4, rfl, O4, B4⟩
  have C4 := bel_trans C3 B4
  have K4 := K3.bel B4
  go_wp2_with (fail)
  refine (IM.out _ _ _ _ O4.has (by omega)).mono ?_
  rintro e w5 ⟨rfl, B5⟩
  have C5 := bel_trans C4 B5
  have K5 := K4.bel B5
  have O5 := O4.bel B5
  obtain ⟨w6, hw6⟩ : ∃ W, w5.alloc (.cells #[.int .i64 (rs : Int), .int .i64 (rk : Int), .int .i64 (rm : Int), .int .i64 (rt : Int), .bool rf] 27) = W := ⟨_, rfl⟩
  have J6 : CrRow w6 w5.heap.size rs rk rm rt rf := hw6 ▸ crRow_alloc w5 _ _ _ _ _
  have B6 : Below w5.heap.size w5 w6 := hw6 ▸ below_alloc13 w5 _
  have C6 := bel_trans C5 B6
  have K6 := K5.bel B6
  have O6 := O5.bel B6
  obtain ⟨x0, x1, x2, x3, x4⟩ := J6.cells
  obtain ⟨y0, y1, y2, y3, y4⟩ := K6.cells
  clear C3 C4 C5 K3 K4 K5 O4 O5 B4 B5 B6
  go_wp2_with (fail)
  refine eqCreditRun_b.mono ?_
  rintro e w7 ⟨rfl, B7⟩
  have C7 := bel_trans C6 B7
  have O7 := O6.bel B7
  clear x0 x1 x2 x3 x4 y0 y1 y2 y3 y4
  go_wp2_with (fail)
  refine (toIntS_any (h3.bel C7) (by omega)).mono ?_
  rintro e w8 ⟨g8, rfl, O8, B8⟩
  go_wp2_with (fail)
  refine (eqIntS_b (O7.bel B8).has O8.has (by omega)).mono ?_
  rintro e w9 ⟨rfl, B9⟩
  go_wp2
  go_ret
  exact ⟨rfl, bel_trans (bel_trans C7 B8) B9⟩
set_option maxRecDepth 100000 in
theorem lifted_FnExactRunCredits (os : Os) (started : os.Started) (H : Type) (enc : TypeId × Value → H) :
    ReturnsInHanded {} Try.checked os 9 .any (Rows.fnExactRunCreditsSpec.pre6 enc Try.prog Try.f9 Rows.fnExactRunCreditsRow.domain false) (Rows.fnExactRunCreditsSpec.post enc Try.prog Try.f9 false true false false) := by
  refine returnsInHanded_of_change (C := Try.checked) (by kernel_rfl) started (by kernel_rfl) Try.func9
    (ChangeSpec.witness6 (enc := enc) (C := Try.checked) false ⟨#[], #[.int .i64 0, .int .i64 0, .int .i64 0, .slice none 0 0, .int .i64 0], []⟩ 8 (by kernel_rfl) (by kernel_rfl) (by kernel_rfl) (by kernel_rfl)) ?_
  intro W base args ds gs before hval0 hW hcnd _
  have hval : ∀ (j : Nat) t v, Try.f9.params[j]? = some t → args[j]? = some v → Value.okWide Try.prog W .any base t v := hval0
  have hW' := hW
  obtain ⟨p, q, hA0, hV, rfl, hfz, hnd⟩ := hW
  have hA : DataW.TrodAll enc Try.prog W 0 (fun _ => true) true Try.f9.params.toList args.toList ds p := hA0
  rw [Try.params9] at hA hval
  obtain ⟨v0, vs0, d0, ds0, p0, q0, hargs, rfl, rfl, h0, r0⟩ := trodAll_cons hA
  obtain ⟨v1, vs1, d1, ds1, p1, q1, rfl, rfl, rfl, h1, r1⟩ := trodAll_cons r0
  obtain ⟨v2, vs2, d2, ds2, p2, q2, rfl, rfl, rfl, h2, r2⟩ := trodAll_cons r1
  obtain ⟨v3, vs3, d3, ds3, p3, q3, rfl, rfl, rfl, h3, r3⟩ := trodAll_cons r2
  obtain ⟨v4, vs4, d4, ds4, p4, q4, rfl, rfl, rfl, h4, r4⟩ := trodAll_cons r3
  obtain ⟨rfl, rfl, rfl⟩ := trodAll_nil r4
  obtain rfl : args = #[v0, v1, v2, v3, v4] := by cases args; simp_all
  obtain ⟨rfl, rfl⟩ := trodVars_none hV
  obtain ⟨a0, rfl, rfl, rfl, w0⟩ := open_int Try.underlying3 (hval 0 3 v0 rfl rfl) h0
  have b0 := i64_of_wf w0
  obtain ⟨a1, rfl, rfl, rfl, w1⟩ := open_int Try.underlying3 (hval 1 3 v1 rfl rfl) h1
  have b1 := i64_of_wf w1
  obtain ⟨a2, rfl, rfl, rfl, w2⟩ := open_int Try.underlying3 (hval 2 3 v2 rfl rfl) h2
  have b2 := i64_of_wf w2
  obtain ⟨a3, len3, cap3, rfl⟩ := okWide_slice Try.underlying23 (hval 3 23 v3 rfl rfl)
  have k3 := h3
  have lt3 : ∀ x ∈ p3, x.block < W.heap.size := by obtain ⟨m, hm⟩ := k3; exact DataW.trod_lt m _ _ _ hm
  obtain ⟨z3, H3, U3, M3⟩ := has_of_trod (k := .i64) Try.underlying23 Try.underlying3 (by kernel_rfl) h3
  obtain ⟨a4, rfl, rfl, rfl, w4⟩ := open_int Try.underlying3 (hval 4 3 v4 rfl rfl) h4
  have b4 := i64_of_wf w4
  clear hA0 hval0
  refine (walk_FnExactRunCredits b0 b1 b2 H3 U3 M3 b4).mono fun e W' ⟨he, bel⟩ => ?_
  subst he
  exact ⟨_, rfl, _, _, _, [], _, [], hW', trodAll_mk1 (shut_bool Try.underlying4 _), (trodAll_cons_mk (shut_int Try.underlying3 w0) (trodAll_cons_mk (shut_int Try.underlying3 w1) (trodAll_cons_mk (shut_int Try.underlying3 w2) (trodAll_cons_mk (Below.trod (by kernel_rfl) (by kernel_rfl) (of_decide_eq_true (by kernel_rfl)) k3 bel lt3) (trodAll_cons_mk (shut_int Try.underlying3 w4) trodAll_mk0))))), rfl, bel.frame _, fun h => by cases h⟩

theorem fnExactRunCredits_holds : Rows.FnExactRunCreditsSaid :=
  OpenClaim.holds_of_wide 9 Try.f9 rfl rfl rfl rfl rfl rfl rfl ⟨rfl, rfl, rfl, rfl, rfl⟩ rfl rfl rfl rfl rfl (by kernel_rfl) Try.func9
    (by unfold joinedFacts; with_reducible refine Bool.and_eq_true_iff.2 ⟨?_, (by as_aux_lemma => kernel_rfl)⟩; with_reducible refine Bool.and_eq_true_iff.2 ⟨?_, (by as_aux_lemma => kernel_rfl)⟩; with_reducible refine Bool.and_eq_true_iff.2 ⟨?_, (by as_aux_lemma => kernel_rfl)⟩; with_reducible refine Bool.and_eq_true_iff.2 ⟨?_, (by as_aux_lemma => kernel_rfl)⟩; with_reducible refine Bool.and_eq_true_iff.2 ⟨?_, (by with_unfolding_all exact shutMake)⟩; with_reducible refine Bool.and_eq_true_iff.2 ⟨?_, (by with_unfolding_all exact shutLifts)⟩; with_reducible refine Bool.and_eq_true_iff.2 ⟨?_, shutEnter⟩; (repeat (with_reducible refine Bool.and_eq_true_iff.2 ⟨?_, (by as_aux_lemma => kernel_rfl)⟩)); as_aux_lemma => kernel_rfl)
    (of_decide_eq_true (by kernel_rfl)) (by unfold Func.isWrapper; first | (rw [if_pos (by decide +kernel)]; kernel_rfl) | (rw [if_neg (by decide +kernel)]; exact ⟨rfl, rfl⟩))
    (fun os started H enc _ => lifted_FnExactRunCredits os started H enc)
end Go.Proofs.Ytkdjcfejkgpplaa
