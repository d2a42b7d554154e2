/-
  FnStrict: for every argument the law of the order by classes returns true and writes nothing that was there. No condition.
-/
import Derived.Test.YtpofkkenbepjpaaDrawJob
import Derived.Test.YtpofkkenbepjpaaImp12f
import Derived.Test.YtpofkkenbepjpaaMathJobD
import Derived.Test.YtpofkkenbepjpaaWnInts
import Derived.Test.YtpofkkenbepjpaaJobX
import Derived.Test.YtpofkkenbepjpaaShut
import Derived.WalkSmall
import Derived.BigRegion
import Derived.BigQuiet
namespace Go.Proofs.Ytpofkkenbepjpaa
open Go.RowKit Go.ChangeShapes Go.WideShapes Go.ChangeAt

theorem strict_pair {ws : List Int} {js : List Duo} {m : Nat} (h : jobsOk ws js) (hm : js.length = m) {k : Nat} {x y : Int} (hx : (strictL ws js)[k]? = some x) (hy : (strictL ws js)[k + 1]? = some y) :
    ∃ i j : Nat, x = (i : Int) ∧ y = (j : Int) ∧ i < m ∧ j < m ∧ ((dj js i).1 < (dj js j).1 ∨ ((dj js i).1 = (dj js j).1 ∧ (i : Int) < (j : Int))) := by
  rw [strictL_eq h] at hx hy
  obtain ⟨i, rfl, hi, _⟩ := strictTo_mem (List.mem_of_getElem? hx)
  obtain ⟨j, rfl, hj, _⟩ := strictTo_mem (List.mem_of_getElem? hy)
  obtain ⟨h1, h2⟩ := List.getElem?_eq_some_iff.1 hx
  obtain ⟨h3, h4⟩ := List.getElem?_eq_some_iff.1 hy
  have hp := List.pairwise_iff_getElem.1 (strictTo_lex js ws.length) k (k + 1) h1 h3 (by omega)
  rw [h2, h4] at hp
  exact ⟨i, j, rfl, rfl, by omega, by omega, hp⟩

set_option maxRecDepth 100000 in
set_option maxHeartbeats 8000000 in
theorem walk_FnStrict {A : Option Addr} {n c : Nat} {zs : List Int} {w : World} (h : Has w A n (ints .u8 zs)) (hwf : ∀ z ∈ zs, (Lit.int .u8 z).wf = true) (hc : n ≤ c ∧ c ≤ maxLen) :
    Calls Try.prog 6 #[.slice A n c] w fun e w' => e = .returned (.bool true) ∧ Below w.heap.size w w' := by
  have hu : U8s zs := fun z hz => u8_of_wf (hwf z hz)
  clear hwf
  by_cases hn : n ≤ 1048576
  rotate_left
  · go_enter Try.func6, Try.ntmps6
    go_wp2
    go_ret
    exact ⟨rfl, Below.refl _ _⟩
  go_enter Try.func6, Try.ntmps6
  go_wp2_with (fail)
  refine (drawStrictOrder_any h hu hc).mono ?_
  rintro e w1 ⟨A1, n1, c1, ws, A2, m1, d1, js, rfl, H1, H2, hn1, hm1, B1⟩
  obtain ⟨R, hR⟩ : ∃ R, strictL ws js = R := ⟨_, rfl⟩
  have HS4 := Lib.hid (strict_few ws js)
  rw [hR] at HS4
  have HL := Lib.hid H1.len
  have HJ := Lib.hid H2.1
  go_wp2_with (fail)
  refine (implStrictOrder_r H1 H2 (by omega) (by omega) hR).mono ?_
  rintro e w2 ⟨AG, nG, cG, rfl, OG, B2⟩
  have C2 := bel_trans B1 B2
  have H1b := H1.bel B2
  have H2b := H2.bel B2
  have hGl : R.length = nG := OG.has.len
  have hnG : nG ≤ 240 := by have := HS4.out; omega
  go_wp2_with (fail)
  refine (specStrictOrder_r H1b H2b (by omega) (by omega) hR).mono ?_
  rintro e w3 ⟨AW, nW, cW, rfl, OW, B3⟩
  have C3 := bel_trans C2 B3
  have OG3 := OG.bel B3
  go_wp2_with (fail)
  refine (wnInts_same OG3.has OW.has (by omega)).mono ?_
  rintro e w4 ⟨rfl, B4⟩
  have C4 := bel_trans C3 B4
  have H2d := (H2b.bel B3).bel B4
  have HGd := OG3.has.bel B4
  have HOK : Hid (nG ≠ 0 → jobsOk ws js) := fun hne => by
    by_cases hok : jobsOk ws js
    · exact hok
    · exact absurd (show nG = 0 by rw [← hGl, ← hR, show strictL ws js = [] from if_neg hok]; rfl) hne
  have HRR := Lib.hid hR
  clear H1 H2 H1b H2b OG OG3 OW C2 C3 B1 B2 B3 B4 hR hGl
  go_wp2
  go_loopw [6] (fun t wr => ∃ k : Nat, (k + 1 ≤ nG ∨ k = 0) ∧ t = .int .i64 (((k + 1 : Nat)) : Int) ∧ Below w4.heap.size w4 wr) (fun t _ => nG - (intOf t).toNat)
  case atStart => exact ⟨0, .inr rfl, rfl, Below.refl _ _⟩
  case round =>
    obtain ⟨k, hk, rfl, BK⟩ := hrel
    have sK := BK.size
    by_cases hlt : k + 1 < nG
    · have hltB : decide ((k : Int) + 1 < (nG : Int)) = true := by simp; omega
      have hltC : decide (((k + 1 : Nat) : Int) < (nG : Int)) = true := by simp; omega
      obtain ⟨b, o, x, rfl, hbl, hx, dx⟩ := (HGd.bel BK).at_ (show k < nG by omega)
      obtain ⟨b', o', y, hb', hbl', hy, dy⟩ := (HGd.bel BK).at_ hlt
      injection hb' with hb'
      injection hb' with e1 e2
      subst e1 e2
      rw [← HRR.out] at hx hy
      obtain ⟨i, j, rfl, rfl, hi1, hj1, hij⟩ := strict_pair (HOK.out (by omega)) HJ.out hx hy
      obtain ⟨b1, o1, rfl, hbl1, f0, f1⟩ := (H2d.bel BK).row hi1
      obtain ⟨b2, o2, hb2, hbl2, g0, g1⟩ := (H2d.bel BK).row hj1
      injection hb2 with hb2
      injection hb2 with e1 e2
      subst e1 e2
      have kw : IntKind.i64.wrap (((k : Int) + 1) - 1) = (k : Int) := (IntWalk.i64_in _ (by omega)).trans (by omega)
      have k0 : (0 : Int) ≤ (k : Int) := by omega
      have k1 : (k : Int) < (nG : Int) := by omega
      have k2 : (0 : Int) ≤ (k : Int) + 1 := by omega
      have k3 : (k : Int) + 1 < (nG : Int) := by omega
      have kt : ((k : Int) + 1).toNat = k + 1 := by omega
      have i0 : (0 : Int) ≤ (i : Int) := by omega
      have i1 : (i : Int) < (m1 : Int) := by omega
      have j0 : (0 : Int) ≤ (j : Int) := by omega
      have j1 : (j : Int) < (m1 : Int) := by omega
      clear hx hy
      generalize (dj js i).1 = f at *
      generalize (dj js i).2 = s at *
      generalize (dj js j).1 = g at *
      generalize (dj js j).2 = t at *
      have HB := Lib.hid (((BK.alloc sK (.cells #[.int .i64 f, .int .i64 s] 31)).alloc (by have := sK; simp; omega) (.cells #[.int .i64 g, .int .i64 t] 31)))
      have HB2 := Lib.hid (((BK.alloc sK (.cells #[.int .i64 g, .int .i64 t] 31)).alloc (by have := sK; simp; omega) (.cells #[.int .i64 f, .int .i64 s] 31)))
      rcases hij with hij | ⟨hij, hlt3⟩
      · have fB : decide (f > g) = false := by simp; omega
        have fC : decide (g < f) = false := by simp; omega
        have fD : (f == g) = false := by simp; omega
        clear hij
        go_wp2
        go_region
        all_goals
          go_wp2
          go_quiet (fail)
          go_wp2
          go_roundw
          case rel => first | exact ⟨k + 1, .inl (by omega), by go_num, HB.out.trans (below_drewN _ _)⟩ | exact ⟨k + 1, .inl (by omega), by go_num, HB2.out.trans (below_drewN _ _)⟩
          case measure => simp [intOf]; omega
      · subst hij
        have fB : decide (f > f) = false := by simp
        have fC : decide (f < f) = false := by simp
        have fD : (f == f) = true := by simp
        have fE : decide ((i : Int) ≥ (j : Int)) = false := by simp; omega
        have fF : decide ((j : Int) ≤ (i : Int)) = false := by simp; omega
        have fG : decide (j ≤ i) = false := by simp; omega
        clear hlt3
        go_wp2
        go_region
        all_goals
          go_wp2
          go_quiet (fail)
          go_wp2
          go_roundw
          case rel => first | exact ⟨k + 1, .inl (by omega), by go_num, HB.out.trans (below_drewN _ _)⟩ | exact ⟨k + 1, .inl (by omega), by go_num, HB2.out.trans (below_drewN _ _)⟩
          case measure => simp [intOf]; omega
    · have hltB : decide ((k : Int) + 1 < (nG : Int)) = false := by simp; omega
      have hltC : decide (((k + 1 : Nat) : Int) < (nG : Int)) = false := by simp; omega
      by_cases hG0 : nG = 0
      · have g0 : ((nG : Int) == 0) = true := by simp; omega
        go_wp2
        go_ret
        exact ⟨rfl, bel_trans C4 BK⟩
      · have g0 : ((nG : Int) == 0) = false := by simp; omega
        obtain rfl : nG = m1 := by
          have h1 := HOK.out hG0
          have h2 := strict_len h1
          rw [← strictL_eq h1, HRR.out] at h2
          have h3 := HGd.len
          have h4 := HJ.out
          omega
        have g1 : ((nG : Int) == (nG : Int)) = true := by simp
        go_wp2
        go_ret
        exact ⟨rfl, bel_trans C4 BK⟩
set_option maxRecDepth 100000 in
theorem lifted_FnStrict (os : Os) (started : os.Started) (H : Type) (enc : TypeId × Value → H) :
    ReturnsInHanded {} Try.checked os 6 .any (Rows.fnStrictSpec.pre6 enc Try.prog Try.f6 Rows.fnStrictRow.domain false) (Rows.fnStrictSpec.post enc Try.prog Try.f6 false true false false) := by
  refine returnsInHanded_of_change (C := Try.checked) (by kernel_rfl) started (by kernel_rfl) Try.func6
    (ChangeSpec.witness6 (enc := enc) (C := Try.checked) false ⟨#[], #[.slice none 0 0], []⟩ 8 (by kernel_rfl) (by kernel_rfl) (by kernel_rfl) (by kernel_rfl)) ?_
  intro W base args ds gs before hval0 hW hcnd _
  have hval : ∀ (j : Nat) t v, Try.f6.params[j]? = some t → args[j]? = some v → Value.okWide Try.prog W .any base t v := hval0
  have hW' := hW
  obtain ⟨p, q, hA0, hV, rfl, hfz, hnd⟩ := hW
  have hA : DataW.TrodAll enc Try.prog W 0 (fun _ => true) true Try.f6.params.toList args.toList ds p := hA0
  rw [Try.params6] at hA hval
  obtain ⟨v0, vs0, d0, ds0, p0, q0, hargs, rfl, rfl, h0, r0⟩ := trodAll_cons hA
  obtain ⟨rfl, rfl, rfl⟩ := trodAll_nil r0
  obtain rfl : args = #[v0] := by cases args; simp_all
  obtain ⟨rfl, rfl⟩ := trodVars_none hV
  obtain ⟨a0, len0, cap0, rfl⟩ := okWide_slice Try.underlying22 (hval 0 22 v0 rfl rfl)
  have k0 := h0
  have lt0 : ∀ x ∈ p0, x.block < W.heap.size := by obtain ⟨m, hm⟩ := k0; exact DataW.trod_lt m _ _ _ hm
  obtain ⟨z0, H0, U0, M0⟩ := has_of_trod (k := .u8) Try.underlying22 Try.underlying5 (by kernel_rfl) h0
  clear hA0 hval0
  refine (walk_FnStrict H0 U0 M0).mono fun e W' ⟨he, bel⟩ => ?_
  subst he
  exact ⟨_, rfl, _, _, _, [], _, [], hW', trodAll_mk1 (shut_bool Try.underlying4 _), (trodAll_cons_mk (Below.trod (by kernel_rfl) (by kernel_rfl) (of_decide_eq_true (by kernel_rfl)) k0 bel lt0) trodAll_mk0), rfl, bel.frame _, fun h => by cases h⟩

theorem fnStrict_holds : Rows.FnStrictSaid :=
  OpenClaim.holds_of_wide 6 Try.f6 rfl rfl rfl rfl rfl rfl rfl ⟨rfl, rfl, rfl, rfl, rfl⟩ rfl rfl rfl rfl rfl (by kernel_rfl) Try.func6
    (by unfold joinedFacts; with_reducible refine Bool.and_eq_true_iff.2 ⟨?_, (by as_aux_lemma => kernel_rfl)⟩; with_reducible refine Bool.and_eq_true_iff.2 ⟨?_, (by as_aux_lemma => kernel_rfl)⟩; with_reducible refine Bool.and_eq_true_iff.2 ⟨?_, (by as_aux_lemma => kernel_rfl)⟩; with_reducible refine Bool.and_eq_true_iff.2 ⟨?_, (by as_aux_lemma => kernel_rfl)⟩; with_reducible refine Bool.and_eq_true_iff.2 ⟨?_, (by with_unfolding_all exact shutMake)⟩; with_reducible refine Bool.and_eq_true_iff.2 ⟨?_, (by with_unfolding_all exact shutLifts)⟩; with_reducible refine Bool.and_eq_true_iff.2 ⟨?_, shutEnter⟩; (repeat (with_reducible refine Bool.and_eq_true_iff.2 ⟨?_, (by as_aux_lemma => kernel_rfl)⟩)); as_aux_lemma => kernel_rfl)
    (of_decide_eq_true (by kernel_rfl)) (by unfold Func.isWrapper; first | (rw [if_pos (by decide +kernel)]; kernel_rfl) | (rw [if_neg (by decide +kernel)]; exact ⟨rfl, rfl⟩))
    (fun os started H enc _ => lifted_FnStrict os started H enc)
end Go.Proofs.Ytpofkkenbepjpaa
