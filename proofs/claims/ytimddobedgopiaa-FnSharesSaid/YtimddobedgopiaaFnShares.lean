/-
  FnShares: for every argument the law of shares returns true and writes nothing that was there. No condition.
-/
import Derived.Test.YtimddobedgopiaaDrawFlow
import Derived.Test.YtimddobedgopiaaImp11d
import Derived.Test.YtimddobedgopiaaShut
namespace Go.Proofs.Ytimddobedgopiaa
open Go.RowKit Go.ChangeShapes Go.WideShapes Go.ChangeAt

theorem someTo_succ {us : List Bool} {k : Nat} (hk : k < us.length) : someTo us (k + 1) = (someTo us k || us.getD k false) := by
  unfold someTo
  rw [List.take_add_one, List.any_append, List.getD_eq_getElem?_getD, List.getElem?_eq_getElem hk]
  simp

set_option maxRecDepth 100000 in
set_option maxHeartbeats 8000000 in
theorem walk_FnShares {A : Option Addr} {n c : Nat} {zs : List Int} {w : World} (h : Has w A n (ints .u8 zs)) (hwf : ∀ z ∈ zs, (Lit.int .u8 z).wf = true) (hc : n ≤ c ∧ c ≤ maxLen) :
    Calls Try.prog 5 #[.slice A n c] w fun e w' => e = .returned (.bool true) ∧ Below w.heap.size w w' := by
  have hu : U8s zs := fun z hz => u8_of_wf (hwf z hz)
  clear hwf
  by_cases hn : n ≤ 1048576
  rotate_left
  · go_enter Try.func5, Try.ntmps5
    go_wp2
    go_ret
    exact ⟨rfl, Below.refl _ _⟩
  go_enter Try.func5, Try.ntmps5
  go_wp2_with (fail)
  refine (drawSharesOf_any h hu hc).mono ?_
  rintro e w1 hX
  unfold BoolsO at hX
  obtain ⟨A1, n1, c1, us, rfl, H1, hn1, B1⟩ := hX
  have s1 := B1.size
  have hl := has_bools_len H1
  obtain ⟨R, hR⟩ : ∃ R, sharesI us = R := ⟨_, rfl⟩
  go_wp2_with (fail)
  refine (implSharesOf_r H1 (by omega) hR).mono ?_
  rintro e w2 ⟨A2, n2, c2, rfl, O2, B2⟩
  have C2 := bel_trans B1 B2
  have H2 := H1.bel B2
  have hn2 := O2.has.len
  go_wp2_with (fail)
  refine (specSharesOf_r H2 (by omega) hR).mono ?_
  rintro e w3 ⟨A3, n3, c3, rfl, O3, B3⟩
  have C3 := bel_trans C2 B3
  have H3 := H2.bel B3
  have P3 := O2.bel B3
  by_cases hok : upOk us
  rotate_left
  · have hR0 : R = [] := by rw [← hR]; unfold sharesI; rw [if_neg hok]
    obtain rfl : n2 = 0 := by rw [hR0] at hn2; exact hn2.symm
    clear hok
    go_wp2_with (fail)
    refine (wnInts_same P3.has O3.has (by omega)).mono ?_
    rintro e w4 ⟨rfl, B4⟩
    have C4 := bel_trans C3 B4
    have P4 := P3.bel B4
    go_wp2_with (fail)
    refine (specSharesOf_r (H3.bel B4) (by omega) hR).mono ?_
    rintro e w5 ⟨A5, n5, c5, rfl, O5, B5⟩
    have C5 := bel_trans C4 B5
    go_wp2_with (fail)
    refine (wnInts_same (P4.bel B5).has O5.has (by omega)).mono ?_
    rintro e w6 ⟨rfl, B6⟩
    go_wp2
    go_ret
    exact ⟨rfl, bel_trans C5 B6⟩
  have hR1 : R = sharesTo us 225 := by rw [← hR]; unfold sharesI; rw [if_pos hok]
  subst hR1
  rw [sharesTo_len, hl] at hn2
  subst hn2
  have h1 : 1 ≤ n1 := by have := hok.1; omega
  have e0 : ((n1 : Int) == 0) = false := by simp; omega
  go_wp2_with (fail)
  refine (wnInts_same P3.has O3.has (by omega)).mono ?_
  rintro e w4 ⟨rfl, B4⟩
  have C4 := bel_trans C3 B4
  have P4 := P3.bel B4
  have H4 := H3.bel B4
  have HAL := Lib.hid (sumTo_all us)
  have HL := Lib.hid hl
  clear hok hR O2 O3 P3 B1 B2 B3 B4
  go_wp2
  go_loop [5, 6, 32] (fun v s i => ∃ k : Nat, k ≤ n1 ∧ i = .int .i64 (k : Int) ∧ v = .int .i64 (sumTo us k) ∧ s = .bool (someTo us k)) (fun _ _ i => n1 - (intOf i).toNat)
  case atStart => exact ⟨0, Nat.zero_le _, rfl, by rw [sumTo_zero], rfl⟩
  case round =>
    obtain ⟨k, hk, rfl, rfl, rfl⟩ := hrel
    by_cases hlt : k < n1
    · have hltB : decide ((k : Int) < (n1 : Int)) = true := by simp; omega
      have hk0 : (0 : Int) ≤ (k : Int) := by omega
      have hk1 : (k : Int) < (n1 : Int) := by omega
      obtain ⟨b, o, hA1, hbl, hcu⟩ := has_bool H4 hlt
      obtain ⟨b2, o2, z, hA2, hbl2, hx, hcz⟩ := P4.has.at_ hlt
      subst hA1 hA2
      rw [sharesTo_get us 225 (by rw [HL.out]; exact hlt)] at hx
      injection hx with hx
      have HS := Lib.hid (sumTo_succ us k)
      rw [hx] at HS
      have HU := Lib.hid (share_up (us := us) (n := 225) (m := k))
      rw [hx] at HU
      have HT := Lib.hid (someTo_succ (us := us) (show k < us.length by rw [HL.out]; exact hlt))
      have hb1 := sumTo_bounds us k
      have hb2 := shareI_bounds us 225 (k : Int)
      rw [hx] at hb2
      generalize sumTo us k = S at *
      generalize us.getD k false = u at *
      generalize someTo us k = s at *
      have wS : IntKind.i64.wrap (S + z) = S + z := IntWalk.i64_in _ (by omega)
      by_cases hz : 0 < z
      · have z0 : decide (z > 0) = true := by simp; omega
        have z1 : decide (0 < z) = true := by simp; omega
        obtain rfl := HU.out hz
        clear hx hb1 hb2 hz
        cases s <;>
        · go_wp2
          go_round
          case rel => exact ⟨k + 1, by omega, by go_num, by rw [HS.out], by rw [HT.out]; rfl⟩
          case measure => simp [intOf]; omega
      · have z0 : decide (z > 0) = false := by simp; omega
        have z1 : decide (0 < z) = false := by simp; omega
        clear hx hb1 hb2 hz
        cases s <;> cases u <;>
        · go_wp2
          go_round
          case rel => exact ⟨k + 1, by omega, by go_num, by rw [HS.out], by rw [HT.out]; rfl⟩
          case measure => simp [intOf]; omega
    · have hltB : decide ((k : Int) < (n1 : Int)) = false := by simp; omega
      obtain rfl : k = n1 := by omega
      have hA := HAL.out
      rw [HL.out] at hA
      generalize someTo us k = s at *
      cases s
      · rw [if_neg (by decide)] at hA
        rw [hA]
        go_wp2
        go_ret
        exact ⟨rfl, C4⟩
      · rw [if_pos rfl] at hA
        rw [hA]
        go_wp2
        go_ret
        exact ⟨rfl, C4⟩
set_option maxRecDepth 100000 in
theorem lifted_FnShares (os : Os) (started : os.Started) (H : Type) (enc : TypeId × Value → H) :
    ReturnsInHanded {} Try.checked os 5 .any (Rows.fnSharesSpec.pre6 enc Try.prog Try.f5 Rows.fnSharesRow.domain false) (Rows.fnSharesSpec.post enc Try.prog Try.f5 false true false false) := by
  refine returnsInHanded_of_change (C := Try.checked) (by kernel_rfl) started (by kernel_rfl) Try.func5
    (ChangeSpec.witness6 (enc := enc) (C := Try.checked) false ⟨#[], #[.slice none 0 0], []⟩ 8 (by kernel_rfl) (by kernel_rfl) (by kernel_rfl) (by kernel_rfl)) ?_
  intro W base args ds gs before hval0 hW hcnd _
  have hval : ∀ (j : Nat) t v, Try.f5.params[j]? = some t → args[j]? = some v → Value.okWide Try.prog W .any base t v := hval0
  have hW' := hW
  obtain ⟨p, q, hA0, hV, rfl, hfz, hnd⟩ := hW
  have hA : DataW.TrodAll enc Try.prog W 0 (fun _ => true) true Try.f5.params.toList args.toList ds p := hA0
  rw [Try.params5] at hA hval
  obtain ⟨v0, vs0, d0, ds0, p0, q0, hargs, rfl, rfl, h0, r0⟩ := trodAll_cons hA
  obtain ⟨rfl, rfl, rfl⟩ := trodAll_nil r0
  obtain rfl : args = #[v0] := by cases args; simp_all
  obtain ⟨rfl, rfl⟩ := trodVars_none hV
  obtain ⟨a0, len0, cap0, rfl⟩ := okWide_slice Try.underlying22 (hval 0 22 v0 rfl rfl)
  have k0 := h0
  have lt0 : ∀ x ∈ p0, x.block < W.heap.size := by obtain ⟨m, hm⟩ := k0; exact DataW.trod_lt m _ _ _ hm
  obtain ⟨z0, H0, U0, M0⟩ := has_of_trod (k := .u8) Try.underlying22 Try.underlying5 (by kernel_rfl) h0
  clear hA0 hval0
  refine (walk_FnShares H0 U0 M0).mono fun e W' ⟨he, bel⟩ => ?_
  subst he
  exact ⟨_, rfl, _, _, _, [], _, [], hW', trodAll_mk1 (shut_bool Try.underlying4 _), (trodAll_cons_mk (Below.trod (by kernel_rfl) (by kernel_rfl) (of_decide_eq_true (by kernel_rfl)) k0 bel lt0) trodAll_mk0), rfl, bel.frame _, fun h => by cases h⟩

theorem fnShares_holds : Rows.FnSharesSaid :=
  OpenClaim.holds_of_wide 5 Try.f5 rfl rfl rfl rfl rfl rfl rfl ⟨rfl, rfl, rfl, rfl, rfl⟩ rfl rfl rfl rfl rfl (by kernel_rfl) Try.func5
    (by unfold joinedFacts; with_reducible refine Bool.and_eq_true_iff.2 ⟨?_, (by as_aux_lemma => kernel_rfl)⟩; with_reducible refine Bool.and_eq_true_iff.2 ⟨?_, (by as_aux_lemma => kernel_rfl)⟩; with_reducible refine Bool.and_eq_true_iff.2 ⟨?_, (by as_aux_lemma => kernel_rfl)⟩; with_reducible refine Bool.and_eq_true_iff.2 ⟨?_, (by as_aux_lemma => kernel_rfl)⟩; with_reducible refine Bool.and_eq_true_iff.2 ⟨?_, (by with_unfolding_all exact shutMake)⟩; with_reducible refine Bool.and_eq_true_iff.2 ⟨?_, (by with_unfolding_all exact shutLifts)⟩; with_reducible refine Bool.and_eq_true_iff.2 ⟨?_, shutEnter⟩; (repeat (with_reducible refine Bool.and_eq_true_iff.2 ⟨?_, (by as_aux_lemma => kernel_rfl)⟩)); as_aux_lemma => kernel_rfl)
    (of_decide_eq_true (by kernel_rfl)) (by unfold Func.isWrapper; first | (rw [if_pos (by decide +kernel)]; kernel_rfl) | (rw [if_neg (by decide +kernel)]; exact ⟨rfl, rfl⟩))
    (fun os started H enc _ => lifted_FnShares os started H enc)
end Go.Proofs.Ytimddobedgopiaa
