/-
  FnLeastBurst: for every argument the law that the least burst is the least one returns true and writes nothing that was there. No condition.
-/
import Derived.Test.YtnloejcfakcpfaaDrawShp
import Derived.Test.YtnloejcfakcpfaaImp14f
import Derived.Test.YtnloejcfakcpfaaShut
namespace Go.Proofs.Ytnloejcfakcpfaa
open Go.RowKit Go.ChangeShapes Go.WideShapes Go.ChangeAt

set_option maxRecDepth 100000 in
set_option maxHeartbeats 8000000 in
theorem walk_FnLeastBurst {A : Option Addr} {n c : Nat} {zs : List Int} {w : World} (h : Has w A n (ints .u8 zs)) (hwf : ∀ z ∈ zs, (Lit.int .u8 z).wf = true) (hc : n ≤ c ∧ c ≤ maxLen) :
    Calls Try.prog 9 #[.slice A n c] w fun e w' => e = .returned (.bool true) ∧ Below w.heap.size w w' := by
  have hu : U8s zs := fun z hz => u8_of_wf (hwf z hz)
  clear hwf
  by_cases hn : n ≤ 1048576
  rotate_left
  · go_enter Try.func9, Try.ntmps9
    go_wp2
    go_ret
    exact ⟨rfl, Below.refl _ _⟩
  go_enter Try.func9, Try.ntmps9
  go_wp2_with (fail)
  refine (drawLeastBurst_any h hu hc).mono ?_
  rintro e w1 ⟨a, B, m, d, js, rfl, H1, h21, B1⟩
  obtain ⟨R, hR⟩ : ∃ R, leastI a js = R := ⟨_, rfl⟩
  have bB : (R != R) = false := by simp
  have bE : (R == R) = true := by simp
  go_wp2_with (fail)
  refine (implLeastBurst_r H1 (by omega) hR).mono ?_
  rintro e w2 ⟨rfl, B2⟩
  have C2 := bel_trans B1 B2
  have H2 := H1.bel B2
  go_wp2_with (fail)
  refine (specLeastBurst_r H2 (by omega) hR).mono ?_
  rintro e w3 ⟨rfl, B3⟩
  have C3 := bel_trans C2 B3
  have H3 := H2.bel B3
  have hb := least_bnd a js
  rw [hR] at hb
  have HR := Lib.hid hR
  clear H1 H2 B1 B2 B3 C2 hR
  go_wp2
  go_loopw [6] (fun i wr => ∃ x : Int, i = .int .i64 x ∧ 1 ≤ x ∧ x ≤ 109 ∧ HasD wr B m js ∧ Below w.heap.size w wr) (fun i _ => (110 - intOf i).toNat)
  case atStart => exact ⟨1, rfl, by omega, by omega, H3, C3⟩
  case round =>
    clear H3 C3
    obtain ⟨x, rfl, x1, x2, H, C⟩ := hrel
    by_cases hlt : x ≤ 100
    · have l1 : decide (x ≤ 100) = true := decide_eq_true hlt
      obtain ⟨p, hp⟩ : ∃ p, decide (confP a x js) = p := ⟨_, rfl⟩
      have hl := least_law (r := a) (hs := js) x1 hlt
      rw [hp, HR.out] at hl
      have K := Lib.hid (implConforms_b (c := d) H (by omega) hp)
      have w1 : IntKind.i64.wrap (x + 9) = x + 9 := IntWalk.i64_in _ (by omega)
      clear hp
      by_cases h0 : 0 < R
      · have a1 : decide (R > 0) = true := decide_eq_true h0
        have a2 : decide (0 < R) = true := decide_eq_true h0
        by_cases h1 : R ≤ x
        · have b1 : decide (x ≥ R) = true := decide_eq_true h1
          have b2 : decide (R ≤ x) = true := decide_eq_true h1
          rw [a2, b2] at hl
          subst hl
          clear h0 h1
          go_wp2_with (fail)
          refine K.out.mono ?_
          rintro e w4 ⟨rfl, B4⟩
          have H4 := H.bel B4
          have C4 := bel_trans C B4
          go_wp2
          go_roundw
          case rel => exact ⟨x + 9, by go_num, by omega, by omega, H4, C4⟩
          case measure => simp [intOf]; omega
        · have b1 : decide (x ≥ R) = false := decide_eq_false h1
          have b2 : decide (R ≤ x) = false := decide_eq_false h1
          rw [a2, b2] at hl
          subst hl
          clear h0 h1
          go_wp2_with (fail)
          refine K.out.mono ?_
          rintro e w4 ⟨rfl, B4⟩
          have H4 := H.bel B4
          have C4 := bel_trans C B4
          go_wp2
          go_roundw
          case rel => exact ⟨x + 9, by go_num, by omega, by omega, H4, C4⟩
          case measure => simp [intOf]; omega
      · have a1 : decide (R > 0) = false := decide_eq_false h0
        have a2 : decide (0 < R) = false := decide_eq_false h0
        rw [a2] at hl
        subst hl
        clear h0
        go_wp2_with (fail)
        refine K.out.mono ?_
        rintro e w4 ⟨rfl, B4⟩
        have H4 := H.bel B4
        have C4 := bel_trans C B4
        go_wp2
        go_roundw
        case rel => exact ⟨x + 9, by go_num, by omega, by omega, H4, C4⟩
        case measure => simp [intOf]; omega
    · have l1 : decide (x ≤ 100) = false := decide_eq_false hlt
      by_cases h2 : R < 2
      · have a1 : decide (R < 2) = true := decide_eq_true h2
        clear h2
        go_wp2
        go_ret
        exact ⟨rfl, C⟩
      · have a1 : decide (R < 2) = false := decide_eq_false h2
        have hl := least_less (r := a) (hs := js) (by rw [HR.out]; omega)
        rw [HR.out] at hl
        have w1 : IntKind.i64.wrap (R - 1) = R - 1 := IntWalk.i64_in _ (by omega)
        have K := Lib.hid (implConforms_b (c := d) H (by omega) hl)
        clear h2 hl
        go_wp2_with (fail)
        refine K.out.mono ?_
        rintro e w4 ⟨rfl, B4⟩
        go_wp2
        go_ret
        exact ⟨rfl, bel_trans C B4⟩
set_option maxRecDepth 100000 in
theorem lifted_FnLeastBurst (os : Os) (started : os.Started) (H : Type) (enc : TypeId × Value → H) :
    ReturnsInHanded {} Try.checked os 9 .any (Rows.fnLeastBurstSpec.pre6 enc Try.prog Try.f9 Rows.fnLeastBurstRow.domain false) (Rows.fnLeastBurstSpec.post enc Try.prog Try.f9 false true false false) := by
  refine returnsInHanded_of_change (C := Try.checked) (by kernel_rfl) started (by kernel_rfl) Try.func9
    (ChangeSpec.witness6 (enc := enc) (C := Try.checked) false ⟨#[], #[.slice none 0 0], []⟩ 8 (by kernel_rfl) (by kernel_rfl) (by kernel_rfl) (by kernel_rfl)) ?_
  intro W base args ds gs before hval0 hW hcnd _
  have hval : ∀ (j : Nat) t v, Try.f9.params[j]? = some t → args[j]? = some v → Value.okWide Try.prog W .any base t v := hval0
  have hW' := hW
  obtain ⟨p, q, hA0, hV, rfl, hfz, hnd⟩ := hW
  have hA : DataW.TrodAll enc Try.prog W 0 (fun _ => true) true Try.f9.params.toList args.toList ds p := hA0
  rw [Try.params9] at hA hval
  obtain ⟨v0, vs0, d0, ds0, p0, q0, hargs, rfl, rfl, h0, r0⟩ := trodAll_cons hA
  obtain ⟨rfl, rfl, rfl⟩ := trodAll_nil r0
  obtain rfl : args = #[v0] := by cases args; simp_all
  obtain ⟨rfl, rfl⟩ := trodVars_none hV
  obtain ⟨a0, len0, cap0, rfl⟩ := okWide_slice Try.underlying22 (hval 0 22 v0 rfl rfl)
  have k0 := h0
  have lt0 : ∀ x ∈ p0, x.block < W.heap.size := by obtain ⟨m, hm⟩ := k0; exact DataW.trod_lt m _ _ _ hm
  obtain ⟨z0, H0, U0, M0⟩ := has_of_trod (k := .u8) Try.underlying22 Try.underlying5 (by kernel_rfl) h0
  clear hA0 hval0
  refine (walk_FnLeastBurst H0 U0 M0).mono fun e W' ⟨he, bel⟩ => ?_
  subst he
  exact ⟨_, rfl, _, _, _, [], _, [], hW', trodAll_mk1 (shut_bool Try.underlying4 _), (trodAll_cons_mk (Below.trod (by kernel_rfl) (by kernel_rfl) (of_decide_eq_true (by kernel_rfl)) k0 bel lt0) trodAll_mk0), rfl, bel.frame _, fun h => by cases h⟩

theorem fnLeastBurst_holds : Rows.FnLeastBurstSaid :=
  OpenClaim.holds_of_wide 9 Try.f9 rfl rfl rfl rfl rfl rfl rfl ⟨rfl, rfl, rfl, rfl, rfl⟩ rfl rfl rfl rfl rfl (by kernel_rfl) Try.func9
    (by unfold joinedFacts; with_reducible refine Bool.and_eq_true_iff.2 ⟨?_, (by as_aux_lemma => kernel_rfl)⟩; with_reducible refine Bool.and_eq_true_iff.2 ⟨?_, (by as_aux_lemma => kernel_rfl)⟩; with_reducible refine Bool.and_eq_true_iff.2 ⟨?_, (by as_aux_lemma => kernel_rfl)⟩; with_reducible refine Bool.and_eq_true_iff.2 ⟨?_, (by as_aux_lemma => kernel_rfl)⟩; with_reducible refine Bool.and_eq_true_iff.2 ⟨?_, (by with_unfolding_all exact shutMake)⟩; with_reducible refine Bool.and_eq_true_iff.2 ⟨?_, (by with_unfolding_all exact shutLifts)⟩; with_reducible refine Bool.and_eq_true_iff.2 ⟨?_, shutEnter⟩; (repeat (with_reducible refine Bool.and_eq_true_iff.2 ⟨?_, (by as_aux_lemma => kernel_rfl)⟩)); as_aux_lemma => kernel_rfl)
    (of_decide_eq_true (by kernel_rfl)) (by unfold Func.isWrapper; first | (rw [if_pos (by decide +kernel)]; kernel_rfl) | (rw [if_neg (by decide +kernel)]; exact ⟨rfl, rfl⟩))
    (fun os started H enc _ => lifted_FnLeastBurst os started H enc)
end Go.Proofs.Ytnloejcfakcpfaa
