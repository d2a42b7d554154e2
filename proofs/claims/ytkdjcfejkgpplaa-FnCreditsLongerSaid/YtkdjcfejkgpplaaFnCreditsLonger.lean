/-
  FnCreditsLonger: for every argument the law that a run goes on as it began returns true and writes nothing that was there. No condition.
-/
import Derived.Test.YtkdjcfejkgpplaaDrawCred
import Derived.Test.YtkdjcfejkgpplaaCredC
import Derived.Test.YtkdjcfejkgpplaaImp13e
import Derived.Test.YtkdjcfejkgpplaaCredQ
import Derived.Test.YtkdjcfejkgpplaaMathCredC
import Derived.Test.YtkdjcfejkgpplaaShut
namespace Go.Proofs.Ytkdjcfejkgpplaa
open Go.RowKit Go.ChangeShapes Go.WideShapes Go.ChangeAt

set_option maxRecDepth 100000 in
set_option maxHeartbeats 8000000 in
theorem walk_FnCreditsLonger {A : Option Addr} {n c : Nat} {zs : List Int} {w : World} (h : Has w A n (ints .u8 zs)) (hwf : ∀ z ∈ zs, (Lit.int .u8 z).wf = true) (hc : n ≤ c ∧ c ≤ maxLen) :
    Calls Try.prog 4 #[.slice A n c] w fun e w' => e = .returned (.bool true) ∧ Below w.heap.size w w' := by
  have hu : U8s zs := fun z hz => u8_of_wf (hwf z hz)
  clear hwf
  by_cases hn : n ≤ 1048576
  rotate_left
  · go_enter Try.func4, Try.ntmps4
    go_wp2
    go_ret
    exact ⟨rfl, Below.refl _ _⟩
  go_enter Try.func4, Try.ntmps4
  go_wp2_with (fail)
  refine (drawRunCredits_any h hu hc).mono ?_
  rintro e w1 ⟨D, q, c1, ds, a, d, m, s, rfl, H1, hq, hsb, B1⟩
  obtain ⟨R, hR⟩ : ∃ R, credI a d m ds s = R := ⟨_, rfl⟩
  obtain ⟨ok, hok⟩ : ∃ ok, decide (credOk a d m ds s) = ok := ⟨_, rfl⟩
  have HR := Lib.hid hR
  have HOK := Lib.hid hok
  have hokB : (ok != ok) = false := by simp
  have hokE : (ok == ok) = true := by simp
  have C1 := Lib.hid (implRunCredits_any (e := c1) H1 (by omega) hR hok)
  have C2 := Lib.hid (fun (W : World) (hW : Has W D q (ints .i64 ds)) => specRunCredits_any (e := c1) hW (by omega) hR hok)
  clear hR hok
  obtain ⟨rs, rk, rm, rt, rf⟩ := R
  unfold crV at C1 C2
  dsimp only at C1 C2
  go_wp2_with (fail)
  refine C1.out.mono ?_
  rintro e w2 ⟨rfl, B2⟩
  obtain ⟨w3, hw3⟩ : ∃ W, w2.alloc (.cells #[.int .i64 (rs : Int), .int .i64 (rk : Int), .int .i64 (rm : Int), .int .i64 (rt : Int), .bool rf] 27) = W := ⟨_, rfl⟩
  have K3 : CrRow w3 w2.heap.size rs rk rm rt rf := hw3 ▸ crRow_alloc w2 _ _ _ _ _
  have B3 : Below w2.heap.size w2 w3 := hw3 ▸ below_alloc13 w2 _
  have E3 := bel_trans (bel_trans B1 B2) B3
  have H3 := (H1.bel B2).bel B3
  clear B1 B2 B3 H1 C1
  go_wp2_with (fail)
  refine (C2.out _ H3).mono ?_
  rintro e w4 ⟨rfl, B4⟩
  obtain ⟨w5, hw5⟩ : ∃ W, w4.alloc (.cells #[.int .i64 (rs : Int), .int .i64 (rk : Int), .int .i64 (rm : Int), .int .i64 (rt : Int), .bool rf] 27) = W := ⟨_, rfl⟩
  have J5 : CrRow w5 w4.heap.size rs rk rm rt rf := hw5 ▸ crRow_alloc w4 _ _ _ _ _
  have B5 : Below w4.heap.size w4 w5 := hw5 ▸ below_alloc13 w4 _
  have K5 := (K3.bel B4).bel B5
  have H5 := (H3.bel B4).bel B5
  have E5 := bel_trans (bel_trans E3 B4) B5
  obtain ⟨x0, x1, x2, x3, x4⟩ := K5.cells
  obtain ⟨y0, y1, y2, y3, y4⟩ := J5.cells
  have eqC := equal_cr rs rk rm rt rf
  have gC := guard_cr
  clear B4 B5 K3 H3 E3 C2
  cases ok with
  | false =>
    go_wp2
    go_ret
    exact ⟨rfl, E5⟩
  | true =>
  have hcr := of_decide_eq_true HOK.out
  obtain ⟨p1, p2, p3, p4, p5, p6⟩ := credI_room hcr HR.out
  dsimp only at p1 p2 p3 p4 p5 p6
  have pm := hcr.1.2.2.2
  have ps := hcr.2.2
  unfold slotOk at ps
  obtain ⟨u, hu'⟩ : ∃ u, min (2 * s + 1) 3000 = u := ⟨_, rfl⟩
  obtain ⟨l1, l2, l3⟩ := credI_longer (u := u) hcr (by omega) HR.out
  dsimp only at l2 l3
  obtain ⟨R', hR'⟩ : ∃ R', credI a d m ds u = R' := ⟨_, rfl⟩
  rw [hR'] at l2 l3
  have C6 := Lib.hid (implRunCredits_any (e := c1) H5 (by omega) hR' (decide_eq_true l1))
  have v1 : IntKind.i64.wrap (2 * s) = 2 * s := IntWalk.i64_in _ (by omega)
  have v2 : IntKind.i64.wrap (2 * s + 1) = 2 * s + 1 := IntWalk.i64_in _ (by omega)
  have HL2 := Lib.hid l2
  have HL3 := Lib.hid l3
  obtain ⟨rs', rk', rm', rt', rf'⟩ := R'
  unfold crV at C6
  dsimp only at C6
  clear p1 p2 p3 p4 p5 p6 ps pm hcr l1 hR' l2 l3
  go_wp2_with (fail)
  refine C6.out.mono ?_
  rintro e w6 ⟨rfl, B6⟩
  obtain ⟨w7, hw7⟩ : ∃ W, w6.alloc (.cells #[.int .i64 (rs' : Int), .int .i64 (rk' : Int), .int .i64 (rm' : Int), .int .i64 (rt' : Int), .bool rf'] 27) = W := ⟨_, rfl⟩
  have L7 : CrRow w7 w6.heap.size rs' rk' rm' rt' rf' := hw7 ▸ crRow_alloc w6 _ _ _ _ _
  have B7 : Below w6.heap.size w6 w7 := hw7 ▸ below_alloc13 w6 _
  have K7 := (K5.bel B6).bel B7
  have E7 := bel_trans (bel_trans E5 B6) B7
  clear x0 x1 x2 x3 x4 y0 y1 y2 y3 y4 J5 B6 B7 hw3 hw5
  obtain ⟨x0, x1, x2, x3, x4⟩ := K7.cells
  obtain ⟨y0, y1, y2, y3, y4⟩ := L7.cells
  cases rf with
  | true =>
    have hRR := HL2.out rfl
    injection hRR with i1 i2 i3 i4 i5
    subst i1 i2 i3 i4 i5
    clear HL2 HL3
    go_wp2
    go_ret
    exact ⟨rfl, E7⟩
  | false =>
    obtain ⟨g1, g2, g3, g4⟩ := HL3.out rfl
    have q1 : ((rt : Int) == s) = true := by simp [g1]
    have a1 : decide ((rk' : Int) ≥ (rk : Int)) = true := decide_eq_true (by omega)
    have a2 : decide ((rk : Int) ≤ (rk' : Int)) = true := decide_eq_true (by omega)
    have a3 : decide (rk ≤ rk') = true := decide_eq_true g2
    have b1 : decide ((rs' : Int) ≥ (rs : Int)) = true := decide_eq_true (by omega)
    have b2 : decide ((rs : Int) ≤ (rs' : Int)) = true := decide_eq_true (by omega)
    have b3 : decide (rs ≤ rs') = true := decide_eq_true g3
    have d1 : decide ((rm' : Int) ≥ (rm : Int)) = true := decide_eq_true (by omega)
    have d2 : decide ((rm : Int) ≤ (rm' : Int)) = true := decide_eq_true (by omega)
    have d3 : decide (rm ≤ rm') = true := decide_eq_true g4
    clear HL2 HL3 g1 g2 g3 g4
    go_wp2
    go_ret
    exact ⟨rfl, E7⟩
set_option maxRecDepth 100000 in
theorem lifted_FnCreditsLonger (os : Os) (started : os.Started) (H : Type) (enc : TypeId × Value → H) :
    ReturnsInHanded {} Try.checked os 4 .any (Rows.fnCreditsLongerSpec.pre6 enc Try.prog Try.f4 Rows.fnCreditsLongerRow.domain false) (Rows.fnCreditsLongerSpec.post enc Try.prog Try.f4 false true false false) := by
  refine returnsInHanded_of_change (C := Try.checked) (by kernel_rfl) started (by kernel_rfl) Try.func4
    (ChangeSpec.witness6 (enc := enc) (C := Try.checked) false ⟨#[], #[.slice none 0 0], []⟩ 8 (by kernel_rfl) (by kernel_rfl) (by kernel_rfl) (by kernel_rfl)) ?_
  intro W base args ds gs before hval0 hW hcnd _
  have hval : ∀ (j : Nat) t v, Try.f4.params[j]? = some t → args[j]? = some v → Value.okWide Try.prog W .any base t v := hval0
  have hW' := hW
  obtain ⟨p, q, hA0, hV, rfl, hfz, hnd⟩ := hW
  have hA : DataW.TrodAll enc Try.prog W 0 (fun _ => true) true Try.f4.params.toList args.toList ds p := hA0
  rw [Try.params4] at hA hval
  obtain ⟨v0, vs0, d0, ds0, p0, q0, hargs, rfl, rfl, h0, r0⟩ := trodAll_cons hA
  obtain ⟨rfl, rfl, rfl⟩ := trodAll_nil r0
  obtain rfl : args = #[v0] := by cases args; simp_all
  obtain ⟨rfl, rfl⟩ := trodVars_none hV
  obtain ⟨a0, len0, cap0, rfl⟩ := okWide_slice Try.underlying22 (hval 0 22 v0 rfl rfl)
  have k0 := h0
  have lt0 : ∀ x ∈ p0, x.block < W.heap.size := by obtain ⟨m, hm⟩ := k0; exact DataW.trod_lt m _ _ _ hm
  obtain ⟨z0, H0, U0, M0⟩ := has_of_trod (k := .u8) Try.underlying22 Try.underlying5 (by kernel_rfl) h0
  clear hA0 hval0
  refine (walk_FnCreditsLonger H0 U0 M0).mono fun e W' ⟨he, bel⟩ => ?_
  subst he
  exact ⟨_, rfl, _, _, _, [], _, [], hW', trodAll_mk1 (shut_bool Try.underlying4 _), (trodAll_cons_mk (Below.trod (by kernel_rfl) (by kernel_rfl) (of_decide_eq_true (by kernel_rfl)) k0 bel lt0) trodAll_mk0), rfl, bel.frame _, fun h => by cases h⟩

theorem fnCreditsLonger_holds : Rows.FnCreditsLongerSaid :=
  OpenClaim.holds_of_wide 4 Try.f4 rfl rfl rfl rfl rfl rfl rfl ⟨rfl, rfl, rfl, rfl, rfl⟩ rfl rfl rfl rfl rfl (by kernel_rfl) Try.func4
    (by unfold joinedFacts; with_reducible refine Bool.and_eq_true_iff.2 ⟨?_, (by as_aux_lemma => kernel_rfl)⟩; with_reducible refine Bool.and_eq_true_iff.2 ⟨?_, (by as_aux_lemma => kernel_rfl)⟩; with_reducible refine Bool.and_eq_true_iff.2 ⟨?_, (by as_aux_lemma => kernel_rfl)⟩; with_reducible refine Bool.and_eq_true_iff.2 ⟨?_, (by as_aux_lemma => kernel_rfl)⟩; with_reducible refine Bool.and_eq_true_iff.2 ⟨?_, (by with_unfolding_all exact shutMake)⟩; with_reducible refine Bool.and_eq_true_iff.2 ⟨?_, (by with_unfolding_all exact shutLifts)⟩; with_reducible refine Bool.and_eq_true_iff.2 ⟨?_, shutEnter⟩; (repeat (with_reducible refine Bool.and_eq_true_iff.2 ⟨?_, (by as_aux_lemma => kernel_rfl)⟩)); as_aux_lemma => kernel_rfl)
    (of_decide_eq_true (by kernel_rfl)) (by unfold Func.isWrapper; first | (rw [if_pos (by decide +kernel)]; kernel_rfl) | (rw [if_neg (by decide +kernel)]; exact ⟨rfl, rfl⟩))
    (fun os started H enc _ => lifted_FnCreditsLonger os started H enc)
end Go.Proofs.Ytkdjcfejkgpplaa
