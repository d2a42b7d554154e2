/-
  FnFairApart: for every argument the law of how far two classes are apart returns true and writes nothing that was there. No condition.
-/
import Derived.Test.YtpofkkenbepjpaaDrawJob
import Derived.Test.YtpofkkenbepjpaaImp12b
import Derived.Test.YtpofkkenbepjpaaImp12i
import Derived.Test.YtpofkkenbepjpaaImp12j
import Derived.Test.YtpofkkenbepjpaaMathJobD
import Derived.Test.YtpofkkenbepjpaaWnInts
import Derived.Test.YtpofkkenbepjpaaJobX
import Derived.Test.YtpofkkenbepjpaaShut
import Derived.WalkSmall
import Derived.BigRegion
import Derived.BigQuiet
namespace Go.Proofs.Ytpofkkenbepjpaa
open Go.RowKit Go.ChangeShapes Go.WideShapes Go.ChangeAt

theorem has_takeJ2 {w : World} {A : Option Addr} {n k : Nat} {zs : List Int} (h : Has w A n (ints .i64 zs)) (hk : k ≤ n) : Has w A k (ints .i64 (zs.take k)) := by
  have hl := h.len
  refine ⟨by rw [ints_length, List.length_take]; omega, fun i hi => ?_⟩
  obtain ⟨b, o, hA, hc⟩ := h.2 i (by omega)
  refine ⟨b, o, hA, hc.trans ?_⟩
  simp [ints, hi]
theorem fair_apart {ws : List Int} {js : List Duo} {n m : Nat} (h : jobsOk ws js) (hn : ws.length = n) (hm : js.length = m) (i : Nat) {a b : Nat} (ha : a < n) (hb : b < n)
    (hlt : sumTo js ((fairL ws js).take i) b m < sumTo js (fairL ws js) b m) :
    sumTo js ((fairL ws js).take i) a m * dw ws b - sumTo js ((fairL ws js).take i) b m * dw ws a ≤ 9 * dw ws a * dw ws b + 8 * dw ws a := by
  subst hn hm
  have h1 := fair_nodup h
  have h2 := fair_ix h
  have h3 : ((fairL ws js).take i).Nodup := List.Nodup.sublist (List.take_sublist _ _) h1
  have h4 : ∀ x ∈ (fairL ws js).take i, 0 ≤ x ∧ x < (js.length : Int) := fun x hx => h2 x (List.mem_of_mem_take hx)
  rw [sum_nodup _ h3 h4, sum_nodup _ h1 h2] at hlt
  rw [sum_nodup _ h3 h4, sum_nodup _ h3 h4]
  exact fair_good h i a b ha hb hlt
theorem served_at {ws : List Int} {js : List Duo} {od R : List Int} {n m : Nat} (h : jobsOk ws js) (hx : ixOk od js.length) (hn : ws.length = n) (hm : js.length = m) (hr : servedL ws js od = R) :
    R.length = n ∧ ∀ c, c < n → R[c]? = some (sumTo js od c m) := by
  subst hn hm
  have : R = servedTo js od ws.length js.length := by rw [← hr]; exact if_pos ⟨h, hx⟩
  rw [this]
  exact ⟨servedTo_len _ _ _ _, fun c hc => servedTo_at _ _ _ _ _ hc⟩

set_option maxRecDepth 100000 in
set_option maxHeartbeats 8000000 in
theorem walk_FnFairApart {A : Option Addr} {n c : Nat} {zs : List Int} {w : World} (h : Has w A n (ints .u8 zs)) (hwf : ∀ z ∈ zs, (Lit.int .u8 z).wf = true) (hc : n ≤ c ∧ c ≤ maxLen) :
    Calls Try.prog 4 #[.slice A n c] w fun e w' => e = .returned (.bool true) ∧ Below w.heap.size w w' := by
  have hu : U8s zs := fun z hz => u8_of_wf (hwf z hz)
  clear hwf
  by_cases hn : n ≤ 1048576
  rotate_left
  · go_enter Try.func4, Try.ntmps4
    go_wp2
    go_ret
    exact ⟨rfl, Below.refl _ _⟩
  go_enter Try.func4, Try.ntmps4
  go_wp2_with (fail)
  refine (drawFairOrder_any h hu hc).mono ?_
  rintro e w1 ⟨A1, n1, c1, ws, A2, m1, d1, js, rfl, H1, H2, hn1, hm1, B1⟩
  obtain ⟨R, hR⟩ : ∃ R, fairL ws js = R := ⟨_, rfl⟩
  have HS4 := Lib.hid (fair_few ws js)
  rw [hR] at HS4
  have HL := Lib.hid H1.len
  have HJ := Lib.hid H2.1
  go_wp2_with (fail)
  refine (implFairOrder_r H1 H2 (by omega) (by omega) hR).mono ?_
  rintro e w2 ⟨AG, nG, cG, rfl, OG, B2⟩
  have C2 := bel_trans B1 B2
  have H1b := H1.bel B2
  have H2b := H2.bel B2
  have hGl : R.length = nG := OG.has.len
  have hnG : nG ≤ 60 := by have := HS4.out; omega
  go_wp2_with (fail)
  refine (specFairOrder_r H1b H2b (by omega) (by omega) hR).mono ?_
  rintro e w3 ⟨AW, nW, cW, rfl, OW, B3⟩
  have C3 := bel_trans C2 B3
  have OG3 := OG.bel B3
  go_wp2_with (fail)
  refine (wnInts_same OG3.has OW.has (by omega)).mono ?_
  rintro e w4 ⟨rfl, B4⟩
  have C4 := bel_trans C3 B4
  have H1d := (H1b.bel B3).bel B4
  have H2d := (H2b.bel B3).bel B4
  have OG4 := OG3.bel B4
  obtain ⟨P, hP⟩ : ∃ P, servedL ws js R = P := ⟨_, rfl⟩
  go_wp2_with (fail)
  refine (implServedBy_r H1d H2d OG4.has (by omega) (by omega) (by omega) hP).mono ?_
  rintro e w5 ⟨AD, nD, cD, rfl, OD, B5⟩
  have C5 := bel_trans C4 B5
  have H1e := H1d.bel B5
  have H2e := H2d.bel B5
  have OG5 := OG4.bel B5
  have hcap := OG5.cap
  have HGe := OG5.has
  have HDe := OD.has
  have HOK : Hid (nG ≠ 0 → jobsOk ws js) := fun hne => by
    by_cases hok : jobsOk ws js
    · exact hok
    · exact absurd (show nG = 0 by rw [← hGl, ← hR, show fairL ws js = [] from if_neg hok]; rfl) hne
  have HRR := Lib.hid hR
  have HPP := Lib.hid hP
  clear H1 H2 H1b H2b H1d H2d OG OG3 OG4 OW OD C2 C3 C4 B1 B2 B3 B4 B5 hGl hR hP
  go_wp2
  go_loopw [34] (fun t wr => ∃ i : Nat, i ≤ nG ∧ t = .int .i64 (i : Int) ∧ Below w5.heap.size w5 wr) (fun t _ => nG - (intOf t).toNat)
  case atStart => exact ⟨0, Nat.zero_le _, rfl, Below.refl _ _⟩
  case round =>
    obtain ⟨i, hi, rfl, BK⟩ := hrel
    have sK := BK.size
    by_cases hlt : i < nG
    · have hltB : decide ((i : Int) < (nG : Int)) = true := by simp; omega
      have HK := Lib.hid (HOK.out (by omega))
      obtain ⟨b, o, _, rfl, hbl, _, _⟩ := HGe.at_ hlt
      have HX : Hid (ixOk R js.length) := by
        have : ixOk R js.length := HRR.out ▸ fair_ix HK.out
        exact this
      have HXt : Hid (ixOk (R.take i) js.length) := by
        have : ixOk (R.take i) js.length := fun x hx => HX.out x (List.mem_of_mem_take hx)
        exact this
      have HD1 := Lib.hid (served_at HK.out HX.out HL.out HJ.out HPP.out)
      have i0 : (0 : Int) ≤ (i : Int) := by omega
      have i1 : (i : Int) ≤ (cG : Int) := by omega
      have i2 : (i : Int) ≤ (nG : Int) := by omega
      obtain ⟨Q, hQ⟩ : ∃ Q, servedL ws js (R.take i) = Q := ⟨_, rfl⟩
      have HQ1 := Lib.hid (served_at HK.out HXt.out HL.out HJ.out hQ)
      have HQ := Lib.hid hQ
      have HGt := has_takeJ2 (HGe.bel BK) hi
      clear hQ
      go_wp2_with (fail)
      refine (implServedBy_r (H1e.bel BK) (H2e.bel BK) HGt (by omega) (by omega) (by omega) HQ.out).mono ?_
      rintro e w6 ⟨AP, nP, cP, rfl, OP, B6⟩
      have C6 := bel_trans BK B6
      have hnP : nP = n1 := by have h1 := OP.has.len; have h2 := HQ1.out.1; omega
      have hnD : nD = n1 := by have h1 := HDe.len; have h2 := HD1.out.1; omega
      subst hnP
      subst hnD
      have H1f := H1e.bel C6
      have HDf := HDe.bel C6
      have HPf := OP.has
      clear OP B6 BK sK
      go_wp2
      go_loopw [45] (fun t wr => ∃ a : Nat, a ≤ nD ∧ t = .int .i64 (a : Int) ∧ Below w6.heap.size w6 wr) (fun t _ => nD - (intOf t).toNat)
      case atStart => exact ⟨0, Nat.zero_le _, rfl, Below.refl _ _⟩
      case round =>
        obtain ⟨a, ha, rfl, BA⟩ := hrel
        by_cases halt : a < nD
        · have haltB : decide ((a : Int) < (nD : Int)) = true := by simp; omega
          go_wp2
          generalize hwb : wr = wb at *; clear hwb
          go_loopw [50] (fun t wr => ∃ b : Nat, b ≤ nD ∧ t = .int .i64 (b : Int) ∧ Below w6.heap.size w6 wr) (fun t _ => nD - (intOf t).toNat)
          case atStart => exact ⟨0, Nat.zero_le _, rfl, BA⟩
          case round =>
            clear BA
            obtain ⟨c', hc', rfl, BB⟩ := hrel
            by_cases hclt : c' < nD
            · have hcltB : decide ((c' : Int) < (nD : Int)) = true := by simp; omega
              obtain ⟨bp, op, pa, rfl, hblp, hpa, da⟩ := (HPf.bel BB).at_ halt
              obtain ⟨b', o', pb, hb', _, hpb, db⟩ := (HPf.bel BB).at_ hclt
              injection hb' with hb'
              injection hb' with e1 e2
              subst e1 e2
              obtain ⟨bd, od, zb, rfl, hbld, hzb, dd⟩ := (HDf.bel BB).at_ hclt
              obtain ⟨bw, ow, rfl, hblw, dwa⟩ := has_dw (H1f.bel BB) halt
              obtain ⟨b', o', hb', _, dwb⟩ := has_dw (H1f.bel BB) hclt
              injection hb' with hb'
              injection hb' with e1 e2
              subst e1 e2
              have epa : pa = sumTo js (R.take i) a m1 := by have h1 := HQ1.out.2 a halt; rw [h1] at hpa; injection hpa with hpa; exact hpa.symm
              have epb : pb = sumTo js (R.take i) c' m1 := by have h1 := HQ1.out.2 c' hclt; rw [h1] at hpb; injection hpb with hpb; exact hpb.symm
              have ezb : zb = sumTo js R c' m1 := by have h1 := HD1.out.2 c' hclt; rw [h1] at hzb; injection hzb with hzb; exact hzb.symm
              have a0 : (0 : Int) ≤ (a : Int) := by omega
              have a1 : (a : Int) < (nD : Int) := by omega
              have b0 : (0 : Int) ≤ (c' : Int) := by omega
              have b1 : (c' : Int) < (nD : Int) := by omega
              have BQ := Lib.hid (fun m : Nat => BB.trans (below_drewN _ m))
              clear hpa hpb hzb
              by_cases hpz : pb < zb
              · have pB : decide (pb < zb) = true := by simp; omega
                obtain ⟨r, hr⟩ : ∃ r, 9 * dw ws a * dw ws c' + 8 * dw ws a = r := ⟨_, rfl⟩
                have hap := fair_apart HK.out HL.out HJ.out i halt hclt (by rw [HRR.out, ← epb, ← ezb]; exact hpz)
                rw [HRR.out, ← epa, ← epb, hr] at hap
                have pa9 := sum_bounds HK.out (R.take i) a m1 (by rw [HJ.out]; exact Nat.le_refl _)
                have pb9 := sum_bounds HK.out (R.take i) c' m1 (by rw [HJ.out]; exact Nat.le_refl _)
                rw [← epa] at pa9
                rw [← epb] at pb9
                have xa := dw_ok HK.out.2.1 (c := a) (by rw [HL.out]; exact halt)
                have xb := dw_ok HK.out.2.1 (c := c') (by rw [HL.out]; exact hclt)
                have CH := Lib.hid (fun m : Nat => implApartBound_q (c := c1) (H1f.bel (BQ.out m)) (by omega) HK.out.2.1 halt hclt hr)
                clear epa epb ezb hpz hr
                generalize dw ws a = wa at *
                generalize dw ws c' = wb' at *
                obtain ⟨u, hu1⟩ : ∃ u, pa * wb' = u := ⟨_, rfl⟩
                obtain ⟨v, hv1⟩ : ∃ v, pb * wa = v := ⟨_, rfl⟩
                have ub : 0 ≤ u ∧ u ≤ 2700 := by rw [← hu1]; exact ⟨Int.mul_nonneg (by omega) (by omega), Int.le_trans (Int.mul_le_mul (show pa ≤ 300 by omega) (show wb' ≤ 9 by omega) (by omega) (by omega)) (by omega)⟩
                have vb : 0 ≤ v ∧ v ≤ 2700 := by rw [← hv1]; exact ⟨Int.mul_nonneg (by omega) (by omega), Int.le_trans (Int.mul_le_mul (show pb ≤ 300 by omega) (show wa ≤ 9 by omega) (by omega) (by omega)) (by omega)⟩
                rw [hu1, hv1] at hap
                have wu : IntKind.i64.wrap u = u := IntWalk.i64_in _ (by omega)
                have wv : IntKind.i64.wrap v = v := IntWalk.i64_in _ (by omega)
                have wd : IntKind.i64.wrap (u - v) = u - v := IntWalk.i64_in _ (by omega)
                have rB : decide (u - v > r) = false := by simp; omega
                have rC : decide (r < u - v) = false := by simp; omega
                clear hap pa9 pb9 xa xb ub vb
                go_wp2
                go_quiet (first | (go_at_call 23; exact Calls.quiet_of (CH.out _)))
                go_wp2
                go_roundw
                case rel => exact ⟨c' + 1, by omega, by go_num, BQ.out _⟩
                case measure => simp [intOf]; omega
              · have pB : decide (pb < zb) = false := by simp; omega
                clear epa epb ezb hpz
                go_wp2
                go_quiet (fail)
                go_wp2
                go_roundw
                case rel => exact ⟨c' + 1, by omega, by go_num, BQ.out _⟩
                case measure => simp [intOf]; omega
            · have hcltB : decide ((c' : Int) < (nD : Int)) = false := by simp; omega
              go_wp2
              go_roundw
              case rel => exact ⟨a + 1, by omega, by go_num, BB⟩
              case measure => simp [intOf]; omega
        · have haltB : decide ((a : Int) < (nD : Int)) = false := by simp; omega
          go_wp2
          go_roundw
          case rel => exact ⟨i + 1, by omega, by go_num, bel_trans C6 BA⟩
          case measure => simp [intOf]; omega
    · have hltB : decide ((i : Int) < (nG : Int)) = false := by simp; omega
      go_wp2
      go_ret
      exact ⟨rfl, bel_trans C5 BK⟩
set_option maxRecDepth 100000 in
theorem lifted_FnFairApart (os : Os) (started : os.Started) (H : Type) (enc : TypeId × Value → H) :
    ReturnsInHanded {} Try.checked os 4 .any (Rows.fnFairApartSpec.pre6 enc Try.prog Try.f4 Rows.fnFairApartRow.domain false) (Rows.fnFairApartSpec.post enc Try.prog Try.f4 false true false false) := by
  refine returnsInHanded_of_change (C := Try.checked) (by kernel_rfl) started (by kernel_rfl) Try.func4
    (ChangeSpec.witness6 (enc := enc) (C := Try.checked) false ⟨#[], #[.slice none 0 0], []⟩ 8 (by kernel_rfl) (by kernel_rfl) (by kernel_rfl) (by kernel_rfl)) ?_
  intro W base args ds gs before hval0 hW hcnd _
  have hval : ∀ (j : Nat) t v, Try.f4.params[j]? = some t → args[j]? = some v → Value.okWide Try.prog W .any base t v := hval0
  have hW' := hW
  obtain ⟨p, q, hA0, hV, rfl, hfz, hnd⟩ := hW
  have hA : DataW.TrodAll enc Try.prog W 0 (fun _ => true) true Try.f4.params.toList args.toList ds p := hA0
  rw [Try.params4] at hA hval
  obtain ⟨v0, vs0, d0, ds0, p0, q0, hargs, rfl, rfl, h0, r0⟩ := trodAll_cons hA
  obtain ⟨rfl, rfl, rfl⟩ := trodAll_nil r0
  obtain rfl : args = #[v0] := by cases args; simp_all
  obtain ⟨rfl, rfl⟩ := trodVars_none hV
  obtain ⟨a0, len0, cap0, rfl⟩ := okWide_slice Try.underlying22 (hval 0 22 v0 rfl rfl)
  have k0 := h0
  have lt0 : ∀ x ∈ p0, x.block < W.heap.size := by obtain ⟨m, hm⟩ := k0; exact DataW.trod_lt m _ _ _ hm
  obtain ⟨z0, H0, U0, M0⟩ := has_of_trod (k := .u8) Try.underlying22 Try.underlying5 (by kernel_rfl) h0
  clear hA0 hval0
  refine (walk_FnFairApart H0 U0 M0).mono fun e W' ⟨he, bel⟩ => ?_
  subst he
  exact ⟨_, rfl, _, _, _, [], _, [], hW', trodAll_mk1 (shut_bool Try.underlying4 _), (trodAll_cons_mk (Below.trod (by kernel_rfl) (by kernel_rfl) (of_decide_eq_true (by kernel_rfl)) k0 bel lt0) trodAll_mk0), rfl, bel.frame _, fun h => by cases h⟩

theorem fnFairApart_holds : Rows.FnFairApartSaid :=
  OpenClaim.holds_of_wide 4 Try.f4 rfl rfl rfl rfl rfl rfl rfl ⟨rfl, rfl, rfl, rfl, rfl⟩ rfl rfl rfl rfl rfl (by kernel_rfl) Try.func4
    (by unfold joinedFacts; with_reducible refine Bool.and_eq_true_iff.2 ⟨?_, (by as_aux_lemma => kernel_rfl)⟩; with_reducible refine Bool.and_eq_true_iff.2 ⟨?_, (by as_aux_lemma => kernel_rfl)⟩; with_reducible refine Bool.and_eq_true_iff.2 ⟨?_, (by as_aux_lemma => kernel_rfl)⟩; with_reducible refine Bool.and_eq_true_iff.2 ⟨?_, (by as_aux_lemma => kernel_rfl)⟩; with_reducible refine Bool.and_eq_true_iff.2 ⟨?_, (by with_unfolding_all exact shutMake)⟩; with_reducible refine Bool.and_eq_true_iff.2 ⟨?_, (by with_unfolding_all exact shutLifts)⟩; with_reducible refine Bool.and_eq_true_iff.2 ⟨?_, shutEnter⟩; (repeat (with_reducible refine Bool.and_eq_true_iff.2 ⟨?_, (by as_aux_lemma => kernel_rfl)⟩)); as_aux_lemma => kernel_rfl)
    (of_decide_eq_true (by kernel_rfl)) (by unfold Func.isWrapper; first | (rw [if_pos (by decide +kernel)]; kernel_rfl) | (rw [if_neg (by decide +kernel)]; exact ⟨rfl, rfl⟩))
    (fun os started H enc _ => lifted_FnFairApart os started H enc)
end Go.Proofs.Ytpofkkenbepjpaa
