/-
  FnServed: for every argument the law of what a list of jobs serves returns true and writes nothing that was there. No condition.
-/
import Derived.Test.YtpofkkenbepjpaaDrawJob
import Derived.Test.YtpofkkenbepjpaaImp12b
import Derived.Test.YtpofkkenbepjpaaVlanN
import Derived.Test.YtpofkkenbepjpaaWnInts
import Derived.Test.YtpofkkenbepjpaaJobX
import Derived.Test.YtpofkkenbepjpaaShut
import Derived.WalkSmall
import Derived.BigRegion
import Derived.BigQuiet
namespace Go.Proofs.Ytpofkkenbepjpaa
open Go.RowKit Go.ChangeShapes Go.WideShapes Go.ChangeAt

set_option maxRecDepth 100000 in
set_option maxHeartbeats 8000000 in
theorem walk_FnServed {A : Option Addr} {n c : Nat} {zs : List Int} {w : World} (h : Has w A n (ints .u8 zs)) (hwf : ∀ z ∈ zs, (Lit.int .u8 z).wf = true) (hc : n ≤ c ∧ c ≤ maxLen) :
    Calls Try.prog 7 #[.slice A n c] w fun e w' => e = .returned (.bool true) ∧ Below w.heap.size w w' := by
  have hu : U8s zs := fun z hz => u8_of_wf (hwf z hz)
  clear hwf
  by_cases hn : n ≤ 1048576
  rotate_left
  · go_enter Try.func7, Try.ntmps7
    go_wp2
    go_ret
    exact ⟨rfl, Below.refl _ _⟩
  go_enter Try.func7, Try.ntmps7
  obtain ⟨i0, hi, hz0, hz1, hz2⟩ := info_parts Try.infoInt
  go_wp2_with (fail)
  refine (drawServedBy_any h hu hc).mono ?_
  rintro e w1 ⟨A1, n1, c1, ws, A2, m1, d1, js, A3, q1, q2, od, rfl, H1, H2, H3, hn1, hm1, hq1, B1⟩
  obtain ⟨R, hR⟩ : ∃ R, servedL ws js od = R := ⟨_, rfl⟩
  have HS4 := Lib.hid (served_few ws js od)
  rw [hR] at HS4
  have HL := Lib.hid H1.len
  have HJ := Lib.hid H2.1
  go_wp2_with (fail)
  refine (implServedBy_r H1 H2 H3 (by omega) (by omega) (by omega) hR).mono ?_
  rintro e w2 ⟨AG, nG, cG, rfl, OG, B2⟩
  have C2 := bel_trans B1 B2
  have H1b := H1.bel B2
  have H2b := H2.bel B2
  have H3b := H3.bel B2
  have hGl : R.length = nG := OG.has.len
  have hnG : nG ≤ 4 := by have := HS4.out; omega
  go_wp2_with (fail)
  refine (specServedBy_r H1b H2b H3b (by omega) (by omega) (by omega) hR).mono ?_
  rintro e w3 ⟨AW, nW, cW, rfl, OW, B3⟩
  have C3 := bel_trans C2 B3
  have OG3 := OG.bel B3
  go_wp2_with (fail)
  refine (wnInts_same OG3.has OW.has (by omega)).mono ?_
  rintro e w4 ⟨rfl, B4⟩
  have C4 := bel_trans C3 B4
  have H1d := (H1b.bel B3).bel B4
  have H2d := (H2b.bel B3).bel B4
  have H3d := (H3b.bel B3).bel B4
  have HGd := OG3.has.bel B4
  clear H1 H2 H3 H1b H2b H3b OG OG3 OW C2 C3 B1 B2 B3 B4
  by_cases hG0 : nG = 0
  · subst hG0
    go_wp2_with (fail)
    refine (specServedBy_r H1d H2d H3d (by omega) (by omega) (by omega) hR).mono ?_
    rintro e w5 ⟨AX, nX, cX, rfl, OX, B5⟩
    have C5 := bel_trans C4 B5
    go_wp2_with (fail)
    refine (wnInts_same (HGd.bel B5) OX.has (by omega)).mono ?_
    rintro e w6 ⟨rfl, B6⟩
    go_wp2
    go_ret
    exact ⟨rfl, bel_trans C5 B6⟩
  have g0 : ((nG : Int) == 0) = false := by simp; omega
  by_cases hok : jobsOk ws js ∧ ixOk od js.length
  rotate_left
  · exact absurd (show nG = 0 by rw [← hGl, ← hR, show servedL ws js od = [] from if_neg hok]; rfl) hG0
  have hRv : R = servedTo js od n1 m1 := by rw [← hR, ← HL.out, ← HJ.out]; exact if_pos hok
  have hGn : nG = n1 := by rw [← hGl, hRv, servedTo_len]
  have HRR := Lib.hid (show servedL ws js (od ++ od) = R by
    rw [hRv, ← HL.out, ← HJ.out]
    unfold servedL
    rw [if_pos ⟨hok.1, fun x hx => hok.2 x (by simpa using hx)⟩]
    exact served_same _ _ (fun x => by simp))
  have HV := Lib.hid hRv
  have HK := Lib.hid hok.1
  subst hGn
  clear hok hRv hR hG0 hGl
  go_wp2
  go_loopw [45] (fun t wr => ∃ k : Nat, k ≤ nG ∧ t = .int .i64 (k : Int) ∧ Below w4.heap.size w4 wr) (fun t _ => nG - (intOf t).toNat)
  case atStart => exact ⟨0, Nat.zero_le _, rfl, Below.refl _ _⟩
  case round =>
    obtain ⟨k, hk, rfl, BK⟩ := hrel
    have sK := BK.size
    by_cases hlt : k < nG
    · have hltB : decide ((k : Int) < (nG : Int)) = true := by simp; omega
      obtain ⟨b, o, z, rfl, hbl, hx, d0⟩ := (HGd.bel BK).at_ hlt
      have HZ := Lib.hid (show z = sumTo js od k m1 by
        rw [HV.out, servedTo_at _ _ _ _ _ hlt] at hx
        injection hx with hx
        exact hx.symm)
      clear hx
      go_wp2
      generalize hwb : wr = wb at *; clear hwb
      go_loopw [9, 52] (fun s t wr => ∃ i : Nat, i ≤ m1 ∧ t = .int .i64 (i : Int) ∧ s = .int .i64 (sumTo js od k i) ∧ Below w4.heap.size w4 wr) (fun _ t _ => m1 - (intOf t).toNat)
      case atStart => exact ⟨0, Nat.zero_le _, rfl, rfl, BK⟩
      case round =>
        clear BK d0 sK hbl
        obtain ⟨i, hil, rfl, rfl, BI⟩ := hrel
        have sI := BI.size
        have hsb := sum_bounds HK.out od k i (by rw [HJ.out]; exact hil)
        by_cases hlt2 : i < m1
        · have hlt2B : decide ((i : Int) < (m1 : Int)) = true := by simp; omega
          obtain ⟨b1, o1, rfl, hbl1, e0, e1⟩ := (H2d.bel BI).row hlt2
          have HD := Lib.hid (dj_ok HK.out (show i < js.length by rw [HJ.out]; exact hlt2))
          have htb := HD.out.2.2
          have HS := Lib.hid (show sumTo js od k (i + 1) = sumTo js od k i + (if (dj js i).1 = (k : Int) ∧ (i : Int) ∈ od then (dj js i).2 else 0) from rfl)
          have BA := BI.alloc sI (.cells #[.int .i64 (dj js i).1, .int .i64 (dj js i).2] 31)
          generalize sumTo js od k i = s at *
          generalize (dj js i).1 = f at *
          generalize (dj js i).2 = t at *
          by_cases hf : f = (k : Int)
          · have fB : (f == (k : Int)) = true := by simp [hf]
            by_cases hm : (i : Int) ∈ od
            · have CH := Lib.hid (wnHas_b (c := q2) (H3d.bel BA) (by omega) (decide_eq_true hm))
              have HS2 := Lib.hid (HS.out.trans (by rw [if_pos ⟨hf, hm⟩]))
              have wS : IntKind.i64.wrap (s + t) = s + t := IntWalk.i64_in _ (by omega)
              clear hf hm HS
              go_wp2_with (fail)
              refine CH.out.mono ?_
              rintro e w' ⟨rfl, rfl⟩
              go_wp2
              go_roundw
              case rel => exact ⟨i + 1, by omega, by go_num, by rw [HS2.out], BA⟩
              case measure => simp [intOf]; omega
            · have CH := Lib.hid (wnHas_b (c := q2) (H3d.bel BA) (by omega) (decide_eq_false hm))
              have HS2 := Lib.hid (HS.out.trans (by rw [if_neg (fun hh => hm hh.2), Int.add_zero]))
              clear hf hm HS
              go_wp2_with (fail)
              refine CH.out.mono ?_
              rintro e w' ⟨rfl, rfl⟩
              go_wp2
              go_roundw
              case rel => exact ⟨i + 1, by omega, by go_num, by rw [HS2.out], BA⟩
              case measure => simp [intOf]; omega
          · have fB : (f == (k : Int)) = false := by simp [hf]
            have HS2 := Lib.hid (HS.out.trans (by rw [if_neg (fun hh => hf hh.1), Int.add_zero]))
            clear hf HS
            go_wp2
            go_roundw
            case rel => exact ⟨i + 1, by omega, by go_num, by rw [HS2.out], BA⟩
            case measure => simp [intOf]; omega
        · have hlt2B : decide ((i : Int) < (m1 : Int)) = false := by simp; omega
          obtain rfl : i = m1 := by omega
          obtain rfl : z = sumTo js od k i := HZ.out
          generalize sumTo js od k i = s at *
          have zB : (s != s) = false := by simp
          clear hsb
          go_wp2
          go_roundw
          case rel => exact ⟨k + 1, by omega, by go_num, BI⟩
          case measure => simp [intOf]; omega
    · have hltB : decide ((k : Int) < (nG : Int)) = false := by simp; omega
      have D0 := below_allocJ wr (.cells #[] 3)
      have E1 := lit_ownJ wr
      have hq0 : 0 + q1 ≤ 1000 := by omega
      go_wp2_with (first | (at_builtin; refine wpList_app_has _ rfl (.tmp 77) (.tmp 78) 23 rfl wr.heap.size 3 i0 (.int .i64 0) 8 Try.underlying23 hi hz0 hz1 hz2 rfl (some ⟨wr.heap.size, 0, none⟩) 0 0 [] rfl E1 A3 q1 q2 (ints .i64 od) rfl (H3d.bel (BK.alloc sK _)) (ints_oneCell _ _) (by omega) (by decide) (by simp) ?_; intro A5 c5 w5 O5 G5 B5; rw [List.nil_append] at O5; have D5 := D0.trans B5; have S5 := D5.size) | (at_builtin; refine wpList_app_has _ rfl (.tmp 79) (.tmp 80) 23 rfl wr.heap.size 3 i0 (.int .i64 0) 8 Try.underlying23 hi hz0 hz1 hz2 rfl A5 _ c5 (ints .i64 od) rfl (by first | exact O5 | (rw [Nat.zero_add] at O5; exact O5)) A3 q1 q2 (ints .i64 od) rfl (H3d.bel (bel_trans BK D5)) (ints_oneCell _ _) (by omega) (by decide) S5 ?_; intro A6 c6 w6 O6 G6 B6; rw [← intsJ_app] at O6; have D6 := D5.trans B6))
      have C6 := bel_trans BK D6
      refine (implServedBy_r (H1d.bel C6) (H2d.bel C6) O6.has (by omega) (by omega) (by omega) HRR.out).mono ?_
      rintro e w7 ⟨AX, nX, cX, rfl, OX, B7⟩
      have C7 := bel_trans C6 B7
      go_wp2_with (fail)
      refine (wnInts_same OX.has (HGd.bel C7) (by have := OX.has.len; have := HGd.len; omega)).mono ?_
      rintro e w8 ⟨rfl, B8⟩
      go_wp2
      go_ret
      exact ⟨rfl, bel_trans C4 (bel_trans C7 B8)⟩
set_option maxRecDepth 100000 in
theorem lifted_FnServed (os : Os) (started : os.Started) (H : Type) (enc : TypeId × Value → H) :
    ReturnsInHanded {} Try.checked os 7 .any (Rows.fnServedSpec.pre6 enc Try.prog Try.f7 Rows.fnServedRow.domain false) (Rows.fnServedSpec.post enc Try.prog Try.f7 false true false false) := by
  refine returnsInHanded_of_change (C := Try.checked) (by kernel_rfl) started (by kernel_rfl) Try.func7
    (ChangeSpec.witness6 (enc := enc) (C := Try.checked) false ⟨#[], #[.slice none 0 0], []⟩ 8 (by kernel_rfl) (by kernel_rfl) (by kernel_rfl) (by kernel_rfl)) ?_
  intro W base args ds gs before hval0 hW hcnd _
  have hval : ∀ (j : Nat) t v, Try.f7.params[j]? = some t → args[j]? = some v → Value.okWide Try.prog W .any base t v := hval0
  have hW' := hW
  obtain ⟨p, q, hA0, hV, rfl, hfz, hnd⟩ := hW
  have hA : DataW.TrodAll enc Try.prog W 0 (fun _ => true) true Try.f7.params.toList args.toList ds p := hA0
  rw [Try.params7] at hA hval
  obtain ⟨v0, vs0, d0, ds0, p0, q0, hargs, rfl, rfl, h0, r0⟩ := trodAll_cons hA
  obtain ⟨rfl, rfl, rfl⟩ := trodAll_nil r0
  obtain rfl : args = #[v0] := by cases args; simp_all
  obtain ⟨rfl, rfl⟩ := trodVars_none hV
  obtain ⟨a0, len0, cap0, rfl⟩ := okWide_slice Try.underlying22 (hval 0 22 v0 rfl rfl)
  have k0 := h0
  have lt0 : ∀ x ∈ p0, x.block < W.heap.size := by obtain ⟨m, hm⟩ := k0; exact DataW.trod_lt m _ _ _ hm
  obtain ⟨z0, H0, U0, M0⟩ := has_of_trod (k := .u8) Try.underlying22 Try.underlying5 (by kernel_rfl) h0
  clear hA0 hval0
  refine (walk_FnServed H0 U0 M0).mono fun e W' ⟨he, bel⟩ => ?_
  subst he
  exact ⟨_, rfl, _, _, _, [], _, [], hW', trodAll_mk1 (shut_bool Try.underlying4 _), (trodAll_cons_mk (Below.trod (by kernel_rfl) (by kernel_rfl) (of_decide_eq_true (by kernel_rfl)) k0 bel lt0) trodAll_mk0), rfl, bel.frame _, fun h => by cases h⟩

theorem fnServed_holds : Rows.FnServedSaid :=
  OpenClaim.holds_of_wide 7 Try.f7 rfl rfl rfl rfl rfl rfl rfl ⟨rfl, rfl, rfl, rfl, rfl⟩ rfl rfl rfl rfl rfl (by kernel_rfl) Try.func7
    (by unfold joinedFacts; with_reducible refine Bool.and_eq_true_iff.2 ⟨?_, (by as_aux_lemma => kernel_rfl)⟩; with_reducible refine Bool.and_eq_true_iff.2 ⟨?_, (by as_aux_lemma => kernel_rfl)⟩; with_reducible refine Bool.and_eq_true_iff.2 ⟨?_, (by as_aux_lemma => kernel_rfl)⟩; with_reducible refine Bool.and_eq_true_iff.2 ⟨?_, (by as_aux_lemma => kernel_rfl)⟩; with_reducible refine Bool.and_eq_true_iff.2 ⟨?_, (by with_unfolding_all exact shutMake)⟩; with_reducible refine Bool.and_eq_true_iff.2 ⟨?_, (by with_unfolding_all exact shutLifts)⟩; with_reducible refine Bool.and_eq_true_iff.2 ⟨?_, shutEnter⟩; (repeat (with_reducible refine Bool.and_eq_true_iff.2 ⟨?_, (by as_aux_lemma => kernel_rfl)⟩)); as_aux_lemma => kernel_rfl)
    (of_decide_eq_true (by kernel_rfl)) (by unfold Func.isWrapper; first | (rw [if_pos (by decide +kernel)]; kernel_rfl) | (rw [if_neg (by decide +kernel)]; exact ⟨rfl, rfl⟩))
    (fun os started H enc _ => lifted_FnServed os started H enc)
end Go.Proofs.Ytpofkkenbepjpaa
