/-
  FnShape: for every argument the law of what goes on returns true and writes nothing that was there. No condition.
-/
import Derived.Test.YtnloejcfakcpfaaImp14e
import Derived.Test.YtnloejcfakcpfaaShpC
import Derived.Test.YtnloejcfakcpfaaShpY
import Derived.Test.YtnloejcfakcpfaaShut
namespace Go.Proofs.Ytnloejcfakcpfaa
open Go.RowKit Go.ChangeShapes Go.WideShapes Go.ChangeAt

set_option maxRecDepth 100000 in
set_option maxHeartbeats 8000000 in
theorem walk_FnShape {A : Option Addr} {n c : Nat} {zs : List Int} {w : World} (h : Has w A n (ints .u8 zs)) (hwf : ∀ z ∈ zs, (Lit.int .u8 z).wf = true) (hc : n ≤ c ∧ c ≤ maxLen) :
    Calls Try.prog 5 #[.slice A n c] w fun e w' => e = .returned (.bool true) ∧ Below w.heap.size w w' := by
  have hu : U8s zs := fun z hz => u8_of_wf (hwf z hz)
  clear hwf
  by_cases hn : n ≤ 1048576
  rotate_left
  · go_enter Try.func5, Try.ntmps5
    go_wp2
    go_ret
    exact ⟨rfl, Below.refl _ _⟩
  go_enter Try.func5, Try.ntmps5
  go_wp2_with (fail)
  refine (drawShapePulses_any h hu hc).mono ?_
  rintro e w1 ⟨a, b, B, m, d, js, rfl, H1, hmd, h21, B1⟩
  obtain ⟨L, hL⟩ : ∃ L, shpI a b js = L := ⟨_, rfl⟩
  have HL := Lib.hid hL
  have HLN := Lib.hid H1.1
  clear hL hn
  go_wp2_with (fail)
  refine (implShapePulses_r H1 (by omega) HL.out).mono ?_
  rintro e w2 ⟨A2, n2, c2, rfl, O2, B2⟩
  have hn2 : n2 ≤ 60 := by have h1 := O2.has.len; rw [← HL.out] at h1; have := shp_few a b js; omega
  have C2 := bel_trans B1 B2
  have H2 := H1.bel B2
  go_wp2_with (fail)
  refine (specShapePulses_r H2 (by omega) HL.out).mono ?_
  rintro e w3 ⟨A3, n3, c3, rfl, O3, B3⟩
  have hn3 : n3 ≤ 60 := by have h1 := O3.has.len; rw [← HL.out] at h1; have := shp_few a b js; omega
  have C3 := bel_trans C2 B3
  have H3 := H2.bel B3
  have P3 := O2.bel B3
  clear H1 H2 B1 B2 B3 C2 O2
  go_wp2_with (fail)
  refine (wnInts_dec P3.has O3.has (by omega) (by omega) (decide_eq_true rfl)).mono ?_
  rintro e w3 ⟨rfl, rfl⟩
  by_cases hz : n2 = 0
  · have z1 : ((n2 : Int) == 0) = true := by simp [hz]
    have z2 : (n2 == 0) = true := by simp [hz]
    clear hz
    go_wp2_with (fail)
    refine (specShapePulses_r H3 (by omega) HL.out).mono ?_
    rintro e w4 ⟨A4, n4, c4, rfl, O4, B4⟩
    go_wp2_with (fail)
    refine (wnInts_dec (P3.bel B4).has O4.has (by omega) (by have h1 := O4.has.len; have h2 := P3.has.len; omega) (decide_eq_true rfl)).mono ?_
    rintro e w4 ⟨rfl, rfl⟩
    go_wp2
    go_ret
    exact ⟨rfl, bel_trans C3 B4⟩
  have z1 : ((n2 : Int) == 0) = false := by simp; omega
  have z2 : (n2 == 0) = false := by simp; omega
  clear O3 hn3
  have hlen := P3.has.len
  have HOK : Hid (shOk a b js ∧ sizOk b js) := by
    have : shOk a b js ∧ sizOk b js := by
      refine Classical.byContradiction fun hh => ?_
      rw [← HL.out] at hlen
      unfold shpI at hlen
      rw [if_neg hh] at hlen
      simp at hlen
      omega
    exact this
  have HLL := Lib.hid (show shpTo a b js js.length = L by rw [← HL.out]; unfold shpI; rw [if_pos HOK.out])
  have hnm : n2 = m := by rw [← HLL.out, shpTo_len, HLN.out] at hlen; omega
  subst hnm
  have hlm := HLN.out
  have P := P3.has
  have HAT : Hid (∀ i z, L[i]? = some z → z = shT a b js i ∧ i < js.length) := fun i z hz2 => by
    have hi : i < js.length := by have := (List.getElem?_eq_some_iff.1 hz2).1; rw [← HLL.out, shpTo_len] at this; exact this
    rw [← HLL.out, shpTo_at _ _ _ hi] at hz2
    injection hz2 with hz2
    exact ⟨hz2.symm, hi⟩
  clear hlen hz P3
  go_wp2
  go_loop [42] (fun i => ∃ k : Nat, k ≤ n2 ∧ i = .int .i64 (k : Int) ∧ Hid (∀ j, j < k → shT a b js j ≤ 2000)) (fun i => n2 - (intOf i).toNat)
  case atStart =>
    have h0 : Hid (∀ j, j < 0 → shT a b js j ≤ 2000) := fun j hj => by omega
    exact ⟨0, Nat.zero_le _, rfl, h0⟩
  case round =>
    obtain ⟨k, hk, rfl, HA⟩ := hrel
    by_cases hlt : k < n2
    · have l1 : decide ((k : Int) < (n2 : Int)) = true := decide_eq_true (by omega)
      obtain ⟨b0, o0, z, hA0, hbl0, hx0, d0⟩ := P.at_ hlt
      obtain ⟨hzv, _⟩ := HAT.out k z hx0
      obtain ⟨b1, o1, f, t, hA1, hbl1, hx1, c0, c1⟩ := H3.at_ hlt
      have hge := shT_ge (r := a) (b := b) (hs := js) HOK.out.1.1.1 k
      rw [dj_atS hx1, ← hzv] at hge
      have m1 : decide (z < f) = false := decide_eq_false (by have := hge.1; dsimp only at this; omega)
      subst hA1
      by_cases hl : z ≤ 2000
      · have q1 : decide (z > 2000) = false := decide_eq_false (by omega)
        have q2 : decide (2000 < z) = false := decide_eq_false (by omega)
        have HA2 : Hid (∀ j, j < k + 1 → shT a b js j ≤ 2000) := fun j hj => by
          by_cases he : j = k
          · subst he; rw [← hzv]; exact hl
          · exact HA.out j (by omega)
        cases k with
        | zero =>
          have e0 : ((0 : Nat) : Int) = 0 := rfl
          simp only [Nat.zero_mul, Nat.add_zero] at c0 c1 d0
          subst hA0
          clear hx0 hx1 hzv hge hl
          rw [e0]
          go_wp2
          go_round
          case rel => exact ⟨0 + 1, by omega, by go_num, HA2⟩
          case measure => simp [intOf]; omega
        | succ j =>
          have ek : ((j + 1 : Nat) : Int) = (j : Int) + 1 := by omega
          have ej : ((j : Int) + 1).toNat = j + 1 := by omega
          have p1 : decide ((j : Int) + 1 > 0) = true := decide_eq_true (by omega)
          have p2 : decide (0 < (j : Int) + 1) = true := decide_eq_true (by omega)
          have p3 : decide ((j : Int) + 1 < (n2 : Int)) = true := decide_eq_true (by omega)
          have p4 : (j : Int) < (n2 : Int) := by omega
          have p5 : j < n2 := by omega
          have wj : IntKind.i64.wrap ((j : Int) + 1 - 1) = (j : Int) := by rw [show (j : Int) + 1 - 1 = (j : Int) by omega]; exact IntWalk.i64_in _ (by omega)
          obtain ⟨b2, o2, z2', hA2, _, hx2, d2⟩ := P.at_ (i := j) (by omega)
          rw [hA0] at hA2
          injection hA2 with hA2
          injection hA2 with e1 e2
          subst e1 e2
          obtain ⟨hzv2, _⟩ := HAT.out j z2' hx2
          have g2 := hge.2
          rw [shT_eq, ← hzv2] at g2
          have m2 : decide (z2' > z) = false := decide_eq_false (by omega)
          have m3 : decide (z < z2') = false := decide_eq_false (by omega)
          subst hA0
          clear hx0 hx1 hx2 hzv hzv2 hge hl g2
          rw [ek]
          go_wp2
          go_round
          case rel => exact ⟨j + 1 + 1, by omega, by go_num, HA2⟩
          case measure => simp [intOf]; omega
      · have q1 : decide (z > 2000) = true := decide_eq_true (by omega)
        have q2 : decide (2000 < z) = true := decide_eq_true (by omega)
        cases k with
        | zero =>
          have e0 : ((0 : Nat) : Int) = 0 := rfl
          simp only [Nat.zero_mul, Nat.add_zero] at c0 c1 d0
          subst hA0
          clear hx0 hx1 hzv hge hl
          rw [e0]
          go_wp2
          go_ret
          exact ⟨rfl, C3⟩
        | succ j =>
          have ek : ((j + 1 : Nat) : Int) = (j : Int) + 1 := by omega
          have ej : ((j : Int) + 1).toNat = j + 1 := by omega
          have p1 : decide ((j : Int) + 1 > 0) = true := decide_eq_true (by omega)
          have p2 : decide (0 < (j : Int) + 1) = true := decide_eq_true (by omega)
          have p3 : decide ((j : Int) + 1 < (n2 : Int)) = true := decide_eq_true (by omega)
          have p4 : (j : Int) < (n2 : Int) := by omega
          have p5 : j < n2 := by omega
          have wj : IntKind.i64.wrap ((j : Int) + 1 - 1) = (j : Int) := by rw [show (j : Int) + 1 - 1 = (j : Int) by omega]; exact IntWalk.i64_in _ (by omega)
          obtain ⟨b2, o2, z2', hA2, _, hx2, d2⟩ := P.at_ (i := j) (by omega)
          rw [hA0] at hA2
          injection hA2 with hA2
          injection hA2 with e1 e2
          subst e1 e2
          obtain ⟨hzv2, _⟩ := HAT.out j z2' hx2
          have g2 := hge.2
          rw [shT_eq, ← hzv2] at g2
          have m2 : decide (z2' > z) = false := decide_eq_false (by omega)
          have m3 : decide (z < z2') = false := decide_eq_false (by omega)
          subst hA0
          clear hx0 hx1 hx2 hzv hzv2 hge hl g2
          rw [ek]
          go_wp2
          go_ret
          exact ⟨rfl, C3⟩
    · have l1 : decide ((k : Int) < (n2 : Int)) = false := decide_eq_false (by omega)
      obtain rfl : k = n2 := by omega
      have hcf := shape_conf HOK.out.1 HOK.out.2 (fun i hi => HA.out i (by omega))
      rw [HLL.out, hlm] at hcf
      have HCF := Lib.hid (decide_eq_true hcf)
      clear hcf
      go_wp2_with (fail)
      refine (wnAtTimes_any H3 P (by omega) (Nat.le_refl _)).mono ?_
      rintro e w4 ⟨A4, c4, rfl, O4, B4⟩
      go_wp2_with (fail)
      refine (implConforms_b O4.has (by omega) HCF.out).mono ?_
      rintro e w5 ⟨rfl, B5⟩
      go_wp2
      go_ret
      exact ⟨rfl, bel_trans (bel_trans C3 B4) B5⟩
set_option maxRecDepth 100000 in
theorem lifted_FnShape (os : Os) (started : os.Started) (H : Type) (enc : TypeId × Value → H) :
    ReturnsInHanded {} Try.checked os 5 .any (Rows.fnShapeSpec.pre6 enc Try.prog Try.f5 Rows.fnShapeRow.domain false) (Rows.fnShapeSpec.post enc Try.prog Try.f5 false true false false) := by
  refine returnsInHanded_of_change (C := Try.checked) (by kernel_rfl) started (by kernel_rfl) Try.func5
    (ChangeSpec.witness6 (enc := enc) (C := Try.checked) false ⟨#[], #[.slice none 0 0], []⟩ 8 (by kernel_rfl) (by kernel_rfl) (by kernel_rfl) (by kernel_rfl)) ?_
  intro W base args ds gs before hval0 hW hcnd _
  have hval : ∀ (j : Nat) t v, Try.f5.params[j]? = some t → args[j]? = some v → Value.okWide Try.prog W .any base t v := hval0
  have hW' := hW
  obtain ⟨p, q, hA0, hV, rfl, hfz, hnd⟩ := hW
  have hA : DataW.TrodAll enc Try.prog W 0 (fun _ => true) true Try.f5.params.toList args.toList ds p := hA0
  rw [Try.params5] at hA hval
  obtain ⟨v0, vs0, d0, ds0, p0, q0, hargs, rfl, rfl, h0, r0⟩ := trodAll_cons hA
  obtain ⟨rfl, rfl, rfl⟩ := trodAll_nil r0
  obtain rfl : args = #[v0] := by cases args; simp_all
  obtain ⟨rfl, rfl⟩ := trodVars_none hV
  obtain ⟨a0, len0, cap0, rfl⟩ := okWide_slice Try.underlying22 (hval 0 22 v0 rfl rfl)
  have k0 := h0
  have lt0 : ∀ x ∈ p0, x.block < W.heap.size := by obtain ⟨m, hm⟩ := k0; exact DataW.trod_lt m _ _ _ hm
  obtain ⟨z0, H0, U0, M0⟩ := has_of_trod (k := .u8) Try.underlying22 Try.underlying5 (by kernel_rfl) h0
  clear hA0 hval0
  refine (walk_FnShape H0 U0 M0).mono fun e W' ⟨he, bel⟩ => ?_
  subst he
  exact ⟨_, rfl, _, _, _, [], _, [], hW', trodAll_mk1 (shut_bool Try.underlying4 _), (trodAll_cons_mk (Below.trod (by kernel_rfl) (by kernel_rfl) (of_decide_eq_true (by kernel_rfl)) k0 bel lt0) trodAll_mk0), rfl, bel.frame _, fun h => by cases h⟩

theorem fnShape_holds : Rows.FnShapeSaid :=
  OpenClaim.holds_of_wide 5 Try.f5 rfl rfl rfl rfl rfl rfl rfl ⟨rfl, rfl, rfl, rfl, rfl⟩ rfl rfl rfl rfl rfl (by kernel_rfl) Try.func5
    (by unfold joinedFacts; with_reducible refine Bool.and_eq_true_iff.2 ⟨?_, (by as_aux_lemma => kernel_rfl)⟩; with_reducible refine Bool.and_eq_true_iff.2 ⟨?_, (by as_aux_lemma => kernel_rfl)⟩; with_reducible refine Bool.and_eq_true_iff.2 ⟨?_, (by as_aux_lemma => kernel_rfl)⟩; with_reducible refine Bool.and_eq_true_iff.2 ⟨?_, (by as_aux_lemma => kernel_rfl)⟩; with_reducible refine Bool.and_eq_true_iff.2 ⟨?_, (by with_unfolding_all exact shutMake)⟩; with_reducible refine Bool.and_eq_true_iff.2 ⟨?_, (by with_unfolding_all exact shutLifts)⟩; with_reducible refine Bool.and_eq_true_iff.2 ⟨?_, shutEnter⟩; (repeat (with_reducible refine Bool.and_eq_true_iff.2 ⟨?_, (by as_aux_lemma => kernel_rfl)⟩)); as_aux_lemma => kernel_rfl)
    (of_decide_eq_true (by kernel_rfl)) (by unfold Func.isWrapper; first | (rw [if_pos (by decide +kernel)]; kernel_rfl) | (rw [if_neg (by decide +kernel)]; exact ⟨rfl, rfl⟩))
    (fun os started H enc _ => lifted_FnShape os started H enc)
end Go.Proofs.Ytnloejcfakcpfaa
