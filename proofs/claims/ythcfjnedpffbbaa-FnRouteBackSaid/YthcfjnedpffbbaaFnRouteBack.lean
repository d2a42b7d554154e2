/-
  FnRouteBack: the way back of one route is the other one turned round. No condition.
-/
import Derived.Test.YthcfjnedpffbbaaDrawFab
import Derived.Test.YthcfjnedpffbbaaImp16f
import Derived.Test.YthcfjnedpffbbaaWnInts
import Derived.Test.YthcfjnedpffbbaaShut
namespace Go.Proofs.Ythcfjnedpffbbaa
open Go.RowKit Go.ChangeShapes Go.WideShapes Go.ChangeAt

set_option maxRecDepth 100000 in
set_option maxHeartbeats 8000000 in
theorem walk_FnRouteBack {A : Option Addr} {n c : Nat} {zs : List Int} {w : World} (h : Has w A n (ints .u8 zs)) (hwf : ∀ z ∈ zs, (Lit.int .u8 z).wf = true) (hc : n ≤ c ∧ c ≤ maxLen) :
    Calls Try.prog 3 #[.slice A n c] w fun e w' => e = .returned (.bool true) ∧ Below w.heap.size w w' := by
  have hu : U8s zs := fun z hz => u8_of_wf (hwf z hz)
  clear hwf
  by_cases hn : n ≤ 1048576
  rotate_left
  · go_enter Try.func3, Try.ntmps3
    go_wp2
    go_ret
    exact ⟨rfl, Below.refl _ _⟩
  go_enter Try.func3, Try.ntmps3
  go_wp2_with (fail)
  refine (drawRouteYX_any h hu hc).mono ?_
  rintro e w1 hX
  unfold TwoD at hX
  obtain ⟨a, b, c1, d, rfl, _, _, _, _, B1⟩ := hX
  obtain ⟨P, hP⟩ : ∃ P, routeXY a b c1 d = P := ⟨_, rfl⟩
  obtain ⟨Q, hQ⟩ : ∃ Q, routeYX a b d c1 = Q := ⟨_, rfl⟩
  have HQ := Lib.hid (show P.reverse = Q by rw [← hP, ← hQ]; exact route_rev a b d c1)
  have HPL := Lib.hid (show P.length ≤ 30 by rw [← hP]; exact (routeXY_len _ _ _ _).1)
  have CP := Lib.hid (fun W => implRouteXY_any a b c1 d W)
  have CQ := Lib.hid (fun W => implRouteYX_any a b d c1 W)
  have SP := Lib.hid (fun W => specRouteXY_any a b c1 d W)
  have SQ := Lib.hid (fun W => specRouteYX_any a b d c1 W)
  rw [hP] at CP SP
  rw [hQ] at CQ SQ
  clear hP hQ h hu hc
  go_wp2_with (fail)
  refine (CP.out _).mono ?_
  rintro e w2 ⟨A2, n2, c2, rfl, O2, B2⟩
  have T2 := bel_trans B1 B2
  go_wp2_with (fail)
  refine (CQ.out _).mono ?_
  rintro e w3 ⟨A3, n3, c3, rfl, O3, B3⟩
  have T3 := bel_trans T2 B3
  have p3 := O2.bel B3
  have l2 := O2.has.len
  have l3 := O3.has.len
  obtain rfl : n3 = n2 := by rw [← l2, ← l3, ← HQ.out]; simp
  have hn30 : n3 ≤ 30 := by have := HPL.out; omega
  have HL2 := Lib.hid l2
  clear l2 l3
  go_wp2_with (fail)
  refine (SP.out _).mono ?_
  rintro e w4 ⟨A4, n4, c4, rfl, O4, B4⟩
  have T4 := bel_trans T3 B4
  have p4 := p3.bel B4
  have q4 := O3.bel B4
  have CW := Lib.hid (wnInts_same (c := c2) (c' := c4) p4.has O4.has (by omega))
  go_wp2_with (fail)
  refine (CW.out).mono ?_
  rintro e w5 HW
  obtain ⟨rfl, B5⟩ := HW
  have T5 := bel_trans T4 B5
  have p5 := p4.bel B5
  have q5 := q4.bel B5
  go_wp2_with (fail)
  refine (SQ.out _).mono ?_
  rintro e w6 ⟨A6, n6, c6, rfl, O6, B6⟩
  have T6 := bel_trans T5 B6
  have p6 := p5.bel B6
  have q6 := q5.bel B6
  have CW2 := Lib.hid (wnInts_same (c := c3) (c' := c6) q6.has O6.has (by omega))
  go_wp2_with (fail)
  refine (CW2.out).mono ?_
  rintro e w7 HW
  obtain ⟨rfl, B7⟩ := HW
  have T7 := bel_trans T6 B7
  have p7 := p6.bel B7
  have q7 := q6.bel B7
  clear p3 p4 q4 p5 q5 p6 q6 O2 O3 O4 O6 B1 B2 B3 B4 B5 B6 B7 T2 T3 T4 T5 T6 CP CQ SP SQ CW CW2
  go_wp2
  go_loopw [58] (fun t wr => ∃ k : Nat, k ≤ n3 ∧ t = .int .i64 (k : Int) ∧ Below w7.heap.size w7 wr) (fun t _ => n3 - (intOf t).toNat)
  case atStart => exact ⟨0, Nat.zero_le _, rfl, Below.refl _ _⟩
  case round =>
    obtain ⟨k, hk, rfl, B⟩ := hrel
    by_cases hlt : k < n3
    · have hltB : decide ((k : Int) < (n3 : Int)) = true := by simp; omega
      obtain ⟨b1, o1, z, hA1, hb1, hx, hc1⟩ := (p7.has.bel B).at_ hlt
      obtain ⟨b2, o2, u, hA2, hb2, hy, hc2⟩ := (q7.has.bel B).at_ (show n3 - 1 - k < n3 by omega)
      subst hA1
      subst hA2
      obtain rfl : u = z := by
        have h1 := HL2.out
        have h2 := List.getElem?_reverse (l := P) (i := n3 - 1 - k) (by omega)
        rw [HQ.out, hy, show P.length - 1 - (n3 - 1 - k) = k by omega, hx] at h2
        injection h2
      have hk0 : (0 : Int) ≤ (k : Int) := by omega
      have hk1 : (k : Int) < (n3 : Int) := by omega
      have t1 : IntKind.i64.wrap ((n3 : Int) - 1) = (n3 : Int) - 1 := IntWalk.i64_in _ (by omega)
      have t2 : IntKind.i64.wrap ((n3 : Int) - 1 - (k : Int)) = (n3 : Int) - 1 - (k : Int) := IntWalk.i64_in _ (by omega)
      have n1 : ((n3 : Int) - 1 - (k : Int)).toNat = n3 - 1 - k := by omega
      have g0 : (0 : Int) ≤ (n3 : Int) - 1 - (k : Int) := by omega
      have g1 : (n3 : Int) - 1 - (k : Int) < (n3 : Int) := by omega
      have zB : (u != u) = false := by simp
      clear hx hy
      generalize n3 - 1 - k = j at *
      go_wp2
      go_roundw
      case rel => exact ⟨k + 1, by omega, by go_num, B⟩
      case measure => simp [intOf]; omega
    · have hltB : decide ((k : Int) < (n3 : Int)) = false := by simp; omega
      go_wp2
      go_ret
      exact ⟨rfl, bel_trans T7 B⟩
set_option maxRecDepth 100000 in
theorem lifted_FnRouteBack (os : Os) (started : os.Started) (H : Type) (enc : TypeId × Value → H) :
    ReturnsInHanded {} Try.checked os 3 .any (Rows.fnRouteBackSpec.pre6 enc Try.prog Try.f3 Rows.fnRouteBackRow.domain false) (Rows.fnRouteBackSpec.post enc Try.prog Try.f3 false true false false) := by
  refine returnsInHanded_of_change (C := Try.checked) (by kernel_rfl) started (by kernel_rfl) Try.func3
    (ChangeSpec.witness6 (enc := enc) (C := Try.checked) false ⟨#[], #[.slice none 0 0], []⟩ 8 (by kernel_rfl) (by kernel_rfl) (by kernel_rfl) (by kernel_rfl)) ?_
  intro W base args ds gs before hval0 hW hcnd _
  have hval : ∀ (j : Nat) t v, Try.f3.params[j]? = some t → args[j]? = some v → Value.okWide Try.prog W .any base t v := hval0
  have hW' := hW
  obtain ⟨p, q, hA0, hV, rfl, hfz, hnd⟩ := hW
  have hA : DataW.TrodAll enc Try.prog W 0 (fun _ => true) true Try.f3.params.toList args.toList ds p := hA0
  rw [Try.params3] at hA hval
  obtain ⟨v0, vs0, d0, ds0, p0, q0, hargs, rfl, rfl, h0, r0⟩ := trodAll_cons hA
  obtain ⟨rfl, rfl, rfl⟩ := trodAll_nil r0
  obtain rfl : args = #[v0] := by cases args; simp_all
  obtain ⟨rfl, rfl⟩ := trodVars_none hV
  obtain ⟨a0, len0, cap0, rfl⟩ := okWide_slice Try.underlying22 (hval 0 22 v0 rfl rfl)
  have k0 := h0
  have lt0 : ∀ x ∈ p0, x.block < W.heap.size := by obtain ⟨m, hm⟩ := k0; exact DataW.trod_lt m _ _ _ hm
  obtain ⟨z0, H0, U0, M0⟩ := has_of_trod (k := .u8) Try.underlying22 Try.underlying5 (by kernel_rfl) h0
  clear hA0 hval0
  refine (walk_FnRouteBack H0 U0 M0).mono fun e W' ⟨he, bel⟩ => ?_
  subst he
  exact ⟨_, rfl, _, _, _, [], _, [], hW', trodAll_mk1 (shut_bool Try.underlying4 _), (trodAll_cons_mk (Below.trod (by kernel_rfl) (by kernel_rfl) (of_decide_eq_true (by kernel_rfl)) k0 bel lt0) trodAll_mk0), rfl, bel.frame _, fun h => by cases h⟩

theorem fnRouteBack_holds : Rows.FnRouteBackSaid :=
  OpenClaim.holds_of_wide 3 Try.f3 rfl rfl rfl rfl rfl rfl rfl ⟨rfl, rfl, rfl, rfl, rfl⟩ rfl rfl rfl rfl rfl (by kernel_rfl) Try.func3
    (by unfold joinedFacts; with_reducible refine Bool.and_eq_true_iff.2 ⟨?_, (by as_aux_lemma => kernel_rfl)⟩; with_reducible refine Bool.and_eq_true_iff.2 ⟨?_, (by as_aux_lemma => kernel_rfl)⟩; with_reducible refine Bool.and_eq_true_iff.2 ⟨?_, (by as_aux_lemma => kernel_rfl)⟩; with_reducible refine Bool.and_eq_true_iff.2 ⟨?_, (by as_aux_lemma => kernel_rfl)⟩; with_reducible refine Bool.and_eq_true_iff.2 ⟨?_, (by with_unfolding_all exact shutMake)⟩; with_reducible refine Bool.and_eq_true_iff.2 ⟨?_, (by with_unfolding_all exact shutLifts)⟩; with_reducible refine Bool.and_eq_true_iff.2 ⟨?_, shutEnter⟩; (repeat (with_reducible refine Bool.and_eq_true_iff.2 ⟨?_, (by as_aux_lemma => kernel_rfl)⟩)); as_aux_lemma => kernel_rfl)
    (of_decide_eq_true (by kernel_rfl)) (by unfold Func.isWrapper; first | (rw [if_pos (by decide +kernel)]; kernel_rfl) | (rw [if_neg (by decide +kernel)]; exact ⟨rfl, rfl⟩))
    (fun os started H enc _ => lifted_FnRouteBack os started H enc)
end Go.Proofs.Ythcfjnedpffbbaa
