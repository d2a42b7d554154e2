/-
  FnFairAll: for every argument the law of the order in turn returns true and writes nothing that was there. No condition.
-/
import Derived.Test.YtpofkkenbepjpaaDrawJob
import Derived.Test.YtpofkkenbepjpaaImp12i
import Derived.Test.YtpofkkenbepjpaaMathJobD
import Derived.Test.YtpofkkenbepjpaaWnInts
import Derived.Test.YtpofkkenbepjpaaJobX
import Derived.Test.YtpofkkenbepjpaaShut
import Derived.WalkSmall
import Derived.BigRegion
import Derived.BigQuiet
namespace Go.Proofs.Ytpofkkenbepjpaa
open Go.RowKit Go.ChangeShapes Go.WideShapes Go.ChangeAt

theorem fair_pair {ws : List Int} {js : List Duo} {m : Nat} (h : jobsOk ws js) (hm : js.length = m) {p q : Nat} {x y : Int} (hpq : p < q) (hx : (fairL ws js)[p]? = some x) (hy : (fairL ws js)[q]? = some y) :
    ∃ a b : Nat, x = (a : Int) ∧ y = (b : Int) ∧ a < m ∧ b < m ∧ ((dj js a).1 = (dj js b).1 → (a : Int) < (b : Int)) := by
  have r1 := fair_ix h x (List.mem_of_getElem? hx)
  have r2 := fair_ix h y (List.mem_of_getElem? hy)
  obtain ⟨a, rfl⟩ := Int.eq_ofNat_of_zero_le r1.1
  obtain ⟨b, rfl⟩ := Int.eq_ofNat_of_zero_le r2.1
  obtain ⟨h1, h2⟩ := List.getElem?_eq_some_iff.1 hx
  obtain ⟨h3, h4⟩ := List.getElem?_eq_some_iff.1 hy
  have hp := List.pairwise_iff_getElem.1 (fair_in h) p q h1 h3 hpq
  rw [h2, h4] at hp
  exact ⟨a, b, rfl, rfl, by omega, by omega, fun e => hp e⟩

set_option maxRecDepth 100000 in
set_option maxHeartbeats 8000000 in
theorem walk_FnFairAll {A : Option Addr} {n c : Nat} {zs : List Int} {w : World} (h : Has w A n (ints .u8 zs)) (hwf : ∀ z ∈ zs, (Lit.int .u8 z).wf = true) (hc : n ≤ c ∧ c ≤ maxLen) :
    Calls Try.prog 3 #[.slice A n c] w fun e w' => e = .returned (.bool true) ∧ Below w.heap.size w w' := by
  have hu : U8s zs := fun z hz => u8_of_wf (hwf z hz)
  clear hwf
  by_cases hn : n ≤ 1048576
  rotate_left
  · go_enter Try.func3, Try.ntmps3
    go_wp2
    go_ret
    exact ⟨rfl, Below.refl _ _⟩
  go_enter Try.func3, Try.ntmps3
  go_wp2_with (fail)
  refine (drawFairOrder_any h hu hc).mono ?_
  rintro e w1 ⟨A1, n1, c1, ws, A2, m1, d1, js, rfl, H1, H2, hn1, hm1, B1⟩
  obtain ⟨R, hR⟩ : ∃ R, fairL ws js = R := ⟨_, rfl⟩
  have HS4 := Lib.hid (fair_few ws js)
  rw [hR] at HS4
  have HJ := Lib.hid H2.1
  obtain ⟨vb, hvb⟩ : ∃ vb, decide (jobsOk ws js) = vb := ⟨_, rfl⟩
  have VB := Lib.hid hvb
  have vE : (vb == vb) = true := by simp
  have vN : (vb != vb) = false := by simp
  go_wp2_with (fail)
  refine (implFairOrder_r H1 H2 (by omega) (by omega) hR).mono ?_
  rintro e w2 ⟨AG, nG, cG, rfl, OG, B2⟩
  have C2 := bel_trans B1 B2
  have H1b := H1.bel B2
  have H2b := H2.bel B2
  have hGl : R.length = nG := OG.has.len
  have hnG : nG ≤ 60 := by have := HS4.out; omega
  go_wp2_with (fail)
  refine (specFairOrder_r H1b H2b (by omega) (by omega) hR).mono ?_
  rintro e w3 ⟨AW, nW, cW, rfl, OW, B3⟩
  have C3 := bel_trans C2 B3
  have OG3 := OG.bel B3
  go_wp2_with (fail)
  refine (wnInts_same OG3.has OW.has (by omega)).mono ?_
  rintro e w4 ⟨rfl, B4⟩
  have C4 := bel_trans C3 B4
  have H1d := (H1b.bel B3).bel B4
  have H2d := (H2b.bel B3).bel B4
  have OG4 := OG3.bel B4
  clear hvb
  go_wp2_with (fail)
  refine (implJobsValid_b H1d H2d (by omega) (by omega) VB.out).mono ?_
  rintro e w5 ⟨rfl, B5⟩
  have C5 := bel_trans C4 B5
  have H1e := H1d.bel B5
  have H2e := H2d.bel B5
  have OG5 := OG4.bel B5
  have hcap := OG5.cap
  have HGe := OG5.has
  have HOK : Hid (nG ≠ 0 → jobsOk ws js) := fun hne => by
    by_cases hok : jobsOk ws js
    · exact hok
    · exact absurd (show nG = 0 by rw [← hGl, ← hR, show fairL ws js = [] from if_neg hok]; rfl) hne
  have HRR := Lib.hid hR
  clear H1 H2 H1b H2b H1d H2d OG OG3 OG4 OW C2 C3 C4 B1 B2 B3 B4 B5 hGl hR
  go_wp2_with (fail)
  refine (specJobsValid_b H1e H2e (by omega) (by omega) VB.out).mono ?_
  rintro e w' ⟨rfl, rfl⟩
  by_cases hG0 : nG = 0
  · subst hG0
    go_wp2_with (fail)
    refine (specFairOrder_r H1e H2e (by omega) (by omega) HRR.out).mono ?_
    rintro e w6 ⟨AX, nX, cX, rfl, OX, B6⟩
    have C6 := bel_trans C5 B6
    go_wp2_with (fail)
    refine (wnInts_same (HGe.bel B6) OX.has (by omega)).mono ?_
    rintro e w7 ⟨rfl, B7⟩
    have C7 := bel_trans C6 B7
    go_wp2_with (fail)
    refine (implJobsValid_b ((H1e.bel B6).bel B7) ((H2e.bel B6).bel B7) (by omega) (by omega) VB.out).mono ?_
    rintro e w8 ⟨rfl, B8⟩
    have C8 := bel_trans C7 B8
    go_wp2_with (fail)
    refine (specJobsValid_b (((H1e.bel B6).bel B7).bel B8) (((H2e.bel B6).bel B7).bel B8) (by omega) (by omega) VB.out).mono ?_
    rintro e w' ⟨rfl, rfl⟩
    go_wp2
    go_ret
    exact ⟨rfl, C8⟩
  have g0 : ((nG : Int) == 0) = false := by simp; omega
  have HK := Lib.hid (HOK.out hG0)
  have hlen : nG = m1 := by
    have h1 := fair_len HK.out
    rw [HRR.out] at h1
    have h2 := HGe.len
    have h3 := HJ.out
    omega
  subst hlen
  have gE : ((nG : Int) == (nG : Int)) = true := by simp
  obtain ⟨b, o, _, rfl, hbl, _, _⟩ := HGe.at_ (i := 0) (by omega)
  clear hG0 HOK
  go_wp2
  go_loopw [57] (fun t wr => ∃ i : Nat, i ≤ nG ∧ t = .int .i64 (i : Int) ∧ Below w5.heap.size w5 wr) (fun t _ => nG - (intOf t).toNat)
  case atStart => exact ⟨0, Nat.zero_le _, rfl, Below.refl _ _⟩
  case round =>
    obtain ⟨i, hi, rfl, BK⟩ := hrel
    have sK := BK.size
    by_cases hlt : i < nG
    · have hltB : decide ((i : Int) < (nG : Int)) = true := by simp; omega
      obtain ⟨b', o', x, hb', hbl', hx, dx⟩ := (HGe.bel BK).at_ hlt
      injection hb' with hb'
      injection hb' with e1 e2
      subst e1 e2
      rw [← HRR.out] at hx
      have HX := Lib.hid hx
      have i2 : (0 : Int) ≤ (i : Int) + 1 := by omega
      have i3 : (i : Int) + 1 ≤ (nG : Int) := by omega
      have i4 : (i : Int) + 1 ≤ (cG : Int) := by omega
      have i5 : ((i : Int) + 1).toNat = i + 1 := by omega
      clear hx
      by_cases hce : cG = i + 1
      · subst hce
        have hlt2B : decide ((0 : Int) < (nG : Int) - ((i : Int) + 1)) = false := by simp; omega
        have hlt2C : decide ((0 : Int) < ((nG - (i + 1) : Nat) : Int)) = false := by simp; omega
        go_wp2
        generalize hwb : wr = wb at *; clear hwb
        go_loopw [67] (fun t wr => t = .int .i64 (0 : Int) ∧ Below w5.heap.size w5 wr) (fun _ _ => 0)
        case atStart => exact ⟨rfl, BK⟩
        case round =>
          obtain ⟨rfl, BI⟩ := hrel
          go_wp2
          go_roundw
          case rel => exact ⟨i + 1, by omega, by go_num, BI⟩
          case measure => simp [intOf]; omega
      go_wp2
      generalize hwb : wr = wb at *; clear hwb
      go_loopw [67] (fun t wr => ∃ q : Nat, q + (i + 1) ≤ nG ∧ t = .int .i64 (q : Int) ∧ Below w5.heap.size w5 wr) (fun t _ => nG - (intOf t).toNat)
      case atStart => exact ⟨0, by omega, rfl, BK⟩
      case round =>
        clear BK sK hbl'
        obtain ⟨q, hq, rfl, BI⟩ := hrel
        have sI := BI.size
        by_cases hlt2 : q + (i + 1) < nG
        · have hlt2B : decide ((q : Int) < (nG : Int) - ((i : Int) + 1)) = true := by simp; omega
          have hlt2C : decide ((q : Int) < ((nG - (i + 1) : Nat) : Int)) = true := by simp; omega
          obtain ⟨b', o', y, hb', hbl', hy, dy⟩ := (HGe.bel BI).at_ (show i + 1 + q < nG by omega)
          injection hb' with hb'
          injection hb' with e1 e2
          subst e1 e2
          rw [← HRR.out] at hy
          obtain ⟨a', c', rfl, rfl, ha1, hc1, hac⟩ := fair_pair HK.out HJ.out (show i < i + 1 + q by omega) HX.out hy
          obtain ⟨b1, o1, rfl, hbl1, f0, f1⟩ := (H2e.bel BI).row ha1
          obtain ⟨b2, o2, hb2, hbl2, g0, g1⟩ := (H2e.bel BI).row hc1
          injection hb2 with hb2
          injection hb2 with e1 e2
          subst e1 e2
          have dy2 : wr.cell? ⟨b, o + (i + 1) + q, none⟩ = some (.int .i64 (c' : Int)) := by rw [show o + (i + 1) + q = o + (i + 1 + q) by omega]; exact dy
          have a0 : (0 : Int) ≤ (a' : Int) := by omega
          have a1 : (a' : Int) < (nG : Int) := by omega
          have c0 : (0 : Int) ≤ (c' : Int) := by omega
          have c1' : (c' : Int) < (nG : Int) := by omega
          have BQ := Lib.hid (fun m : Nat => BI.trans (below_drewN _ m))
          clear hy
          generalize (dj js a').1 = f at *
          generalize (dj js c').1 = g at *
          by_cases hfg : f = g
          · subst hfg
            have fB : (f == f) = true := by simp
            have hlt3 := hac rfl
            have fE : decide ((c' : Int) ≤ (a' : Int)) = false := by simp; omega
            have fF : decide (c' ≤ a') = false := by simp; omega
            clear hac hlt3
            go_wp2
            go_quiet (fail)
            go_wp2
            go_roundw
            case rel => exact ⟨q + 1, by omega, by go_num, BQ.out _⟩
            case measure => simp [intOf]; omega
          · have fB : (f == g) = false := by simp [hfg]
            clear hac hfg
            go_wp2
            go_quiet (fail)
            go_wp2
            go_roundw
            case rel => exact ⟨q + 1, by omega, by go_num, BQ.out _⟩
            case measure => simp [intOf]; omega
        · have hlt2B : decide ((q : Int) < (nG : Int) - ((i : Int) + 1)) = false := by simp; omega
          have hlt2C : decide ((q : Int) < ((nG - (i + 1) : Nat) : Int)) = false := by simp; omega
          go_wp2
          go_roundw
          case rel => exact ⟨i + 1, by omega, by go_num, BI⟩
          case measure => simp [intOf]; omega
    · have hltB : decide ((i : Int) < (nG : Int)) = false := by simp; omega
      go_wp2
      go_ret
      exact ⟨rfl, bel_trans C5 BK⟩
set_option maxRecDepth 100000 in
theorem lifted_FnFairAll (os : Os) (started : os.Started) (H : Type) (enc : TypeId × Value → H) :
    ReturnsInHanded {} Try.checked os 3 .any (Rows.fnFairAllSpec.pre6 enc Try.prog Try.f3 Rows.fnFairAllRow.domain false) (Rows.fnFairAllSpec.post enc Try.prog Try.f3 false true false false) := by
  refine returnsInHanded_of_change (C := Try.checked) (by kernel_rfl) started (by kernel_rfl) Try.func3
    (ChangeSpec.witness6 (enc := enc) (C := Try.checked) false ⟨#[], #[.slice none 0 0], []⟩ 8 (by kernel_rfl) (by kernel_rfl) (by kernel_rfl) (by kernel_rfl)) ?_
  intro W base args ds gs before hval0 hW hcnd _
  have hval : ∀ (j : Nat) t v, Try.f3.params[j]? = some t → args[j]? = some v → Value.okWide Try.prog W .any base t v := hval0
  have hW' := hW
  obtain ⟨p, q, hA0, hV, rfl, hfz, hnd⟩ := hW
  have hA : DataW.TrodAll enc Try.prog W 0 (fun _ => true) true Try.f3.params.toList args.toList ds p := hA0
  rw [Try.params3] at hA hval
  obtain ⟨v0, vs0, d0, ds0, p0, q0, hargs, rfl, rfl, h0, r0⟩ := trodAll_cons hA
  obtain ⟨rfl, rfl, rfl⟩ := trodAll_nil r0
  obtain rfl : args = #[v0] := by cases args; simp_all
  obtain ⟨rfl, rfl⟩ := trodVars_none hV
  obtain ⟨a0, len0, cap0, rfl⟩ := okWide_slice Try.underlying22 (hval 0 22 v0 rfl rfl)
  have k0 := h0
  have lt0 : ∀ x ∈ p0, x.block < W.heap.size := by obtain ⟨m, hm⟩ := k0; exact DataW.trod_lt m _ _ _ hm
  obtain ⟨z0, H0, U0, M0⟩ := has_of_trod (k := .u8) Try.underlying22 Try.underlying5 (by kernel_rfl) h0
  clear hA0 hval0
  refine (walk_FnFairAll H0 U0 M0).mono fun e W' ⟨he, bel⟩ => ?_
  subst he
  exact ⟨_, rfl, _, _, _, [], _, [], hW', trodAll_mk1 (shut_bool Try.underlying4 _), (trodAll_cons_mk (Below.trod (by kernel_rfl) (by kernel_rfl) (of_decide_eq_true (by kernel_rfl)) k0 bel lt0) trodAll_mk0), rfl, bel.frame _, fun h => by cases h⟩

theorem fnFairAll_holds : Rows.FnFairAllSaid :=
  OpenClaim.holds_of_wide 3 Try.f3 rfl rfl rfl rfl rfl rfl rfl ⟨rfl, rfl, rfl, rfl, rfl⟩ rfl rfl rfl rfl rfl (by kernel_rfl) Try.func3
    (by unfold joinedFacts; with_reducible refine Bool.and_eq_true_iff.2 ⟨?_, (by as_aux_lemma => kernel_rfl)⟩; with_reducible refine Bool.and_eq_true_iff.2 ⟨?_, (by as_aux_lemma => kernel_rfl)⟩; with_reducible refine Bool.and_eq_true_iff.2 ⟨?_, (by as_aux_lemma => kernel_rfl)⟩; with_reducible refine Bool.and_eq_true_iff.2 ⟨?_, (by as_aux_lemma => kernel_rfl)⟩; with_reducible refine Bool.and_eq_true_iff.2 ⟨?_, (by with_unfolding_all exact shutMake)⟩; with_reducible refine Bool.and_eq_true_iff.2 ⟨?_, (by with_unfolding_all exact shutLifts)⟩; with_reducible refine Bool.and_eq_true_iff.2 ⟨?_, shutEnter⟩; (repeat (with_reducible refine Bool.and_eq_true_iff.2 ⟨?_, (by as_aux_lemma => kernel_rfl)⟩)); as_aux_lemma => kernel_rfl)
    (of_decide_eq_true (by kernel_rfl)) (by unfold Func.isWrapper; first | (rw [if_pos (by decide +kernel)]; kernel_rfl) | (rw [if_neg (by decide +kernel)]; exact ⟨rfl, rfl⟩))
    (fun os started H enc _ => lifted_FnFairAll os started H enc)
end Go.Proofs.Ytpofkkenbepjpaa
