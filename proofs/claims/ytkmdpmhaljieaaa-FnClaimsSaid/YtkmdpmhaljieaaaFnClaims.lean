/-
  FnClaims: for every slice of bytes the law returns true and writes nothing that was there. No condition.
-/
import Derived.Test.YtkmdpmhaljieaaaClaimsB
import Derived.Test.YtkmdpmhaljieaaaImp7s
import Derived.Test.YtkmdpmhaljieaaaCabT
import Derived.Test.YtkmdpmhaljieaaaShut
import Derived.Lib.QuietBelow
namespace Go.Proofs.Ytkmdpmhaljieaaa
open Go.RowKit Go.ChangeShapes Go.WideShapes Go.ChangeAt

set_option maxHeartbeats 16000000 in
set_option maxRecDepth 100000 in
theorem walk_FnClaims {A0 : Option Addr} {n0 c0 : Nat} {zs0 : List Int} {w : World} (h0 : Has w A0 n0 (ints .u8 zs0)) (hwf0 : ∀ z ∈ zs0, (Lit.int .u8 z).wf = true) (hc0 : n0 ≤ c0 ∧ c0 ≤ maxLen) :
    Calls Try.prog 7 #[.slice A0 n0 c0] w fun e w' => e = .returned (.bool true) ∧ Below w.heap.size w w' := by
  have hu0 : U8s zs0 := fun z hz => u8_of_wf (hwf0 z hz)
  clear hwf0
  by_cases hn0 : n0 ≤ 1048576
  · go_enter Try.func7, Try.ntmps7
    go_wp2_with (fail)
    refine (drawClaimsAfter_any h0 hu0 hc0).mono ?_
    rintro e w1 h
    unfold CabX at h
    obtain ⟨m, x, A1, n1, c1, ks, rfl, O1, T1, hn1, hm9, hxb, B1⟩ := h
    have H1 := O1.has
    have hT := afterI_told (m : Int) ks x
    have HT := Lib.hid hT.lens
    have hl8 := hT.1
    clear O1 T1 hT
    go_wp2_with (fail)
    refine (implClaimsAfter_w H1 (by omega)).mono ?_
    rintro e w2 ⟨A2, n2, c2, rfl, P2, B2⟩
    have C2 := bel_trans B1 B2
    have H2 := H1.bel B2
    go_wp2_with (fail)
    refine (specClaimsAfter_w H2 (by omega)).mono ?_
    rintro e w3 ⟨A3, n3, c3, rfl, P3, B3⟩
    have C3 := bel_trans C2 B3
    have H3 := H2.bel B3
    have Q3 := P2.has.bel B3
    have hl2 := Q3.len
    have hn2 : n2 ≤ 16777216 := by omega
    go_wp2_with (fail)
    refine (wnPairs_same Q3 P3.has hn2 HT.out).mono ?_
    rintro e w4 ⟨rfl, B4⟩
    have C4 := bel_trans C3 B4
    have H4 := H3.bel B4
    have Q4 := Q3.bel B4
    clear P2 P3 B1 B2 B3 B4 H1 H2 H3 C2 C3 Q3
    by_cases hz : n2 = 0
    · subst hz
      have hnzB : ((0 : Int) == 0) = true := rfl
      clear hl2
      go_wp2_with (fail)
      refine (specClaimsAfter_w H4 (by omega)).mono ?_
      rintro e w5 ⟨A5, n5, c5, rfl, P5, B5⟩
      have C5 := bel_trans C4 B5
      go_wp2_with (fail)
      refine (wnPairs_same (Q4.bel B5) P5.has hn2 HT.out).mono ?_
      rintro e w6 ⟨rfl, B6⟩
      have C6 := bel_trans C5 B6
      go_wp2
      go_ret
      exact ⟨rfl, C6⟩
    · have hnzB : ((n2 : Int) == 0) = false := by simp; omega
      by_cases hxm : x < (m : Int)
      · have hxB : decide (x < (m : Int)) = true := decide_eq_true hxm
        clear hl2 hz hxm
        go_wp2_with (fail)
        refine (specClaimsAfter_w H4 (by omega)).mono ?_
        rintro e w5 ⟨A5, n5, c5, rfl, P5, B5⟩
        have C5 := bel_trans C4 B5
        go_wp2_with (fail)
        refine (wnPairs_same (Q4.bel B5) P5.has hn2 HT.out).mono ?_
        rintro e w6 ⟨rfl, B6⟩
        have C6 := bel_trans C5 B6
        go_wp2
        go_ret
        exact ⟨rfl, C6⟩
      · have hxB : decide (x < (m : Int)) = false := decide_eq_false hxm
        obtain ⟨cs, R, N, rfl, hR, hA⟩ := afterI_yes (by rw [hl2]; exact hz)
        have hmR : m ≤ R := by omega
        rw [hA] at Q4 hl2
        rw [after_len] at hl2
        have hxC : decide (R < m) = false := decide_eq_false (by omega)
        have hm8 := N.le
        have hp0 := N.pos
        have HN := Lib.hid N
        have HC := Lib.hid N.ok
        have HFX := Lib.hid (show nextI (m : Int) ks (afterN m cs R) = afterN m cs R from (N.next (after_len m cs R) (N.clms hR)).trans (after_fix N.ok N.le hmR))
        have HTA := Lib.hid (show ∀ zs ∈ afterN m cs R, zs.length ≤ 16777216 from by rw [← hA]; exact HT.out)
        have H4B := Lib.hid (afterN_four (n := m) (cs := cs) R)
        have HEND := Lib.hid (show ∀ b, b < m → gi (clmAt (afterN m cs R) b) 0 = (rootN m cs b : Int) ∧ gi (clmAt (afterN m cs R) b) 1 = (gn (costsN m cs) b : Int) ∧ ((gn (costsN m cs) b = 0 ∧ gi (clmAt (afterN m cs R) b) 3 = -1) ∨ (gn (costsN m cs) b ≠ 0 ∧ ∃ i : Nat, gi (clmAt (afterN m cs R) b) 3 = (i : Int) ∧ i ∈ treeN m cs)) from fun b hb => by
          obtain ⟨e1, e2⟩ := after_all HC.out hm8 (k := R) (by omega) hb
          refine ⟨e1, e2, ?_⟩
          rcases after_end HC.out hm8 hmR hb with ⟨z, hcl⟩ | ⟨i, o, hu, ho, z, hcl⟩
          · exact Or.inl ⟨z, by rw [hcl]; rfl⟩
          · exact Or.inr ⟨z, i, by rw [hcl]; rfl, treeN_mem.2 ⟨b, hb, hu⟩⟩)
        obtain rfl : n2 = m := hl2.symm
        have HLB := Lib.hid (after_len n2 cs R)
        clear N hz hxb hA hxm
        go_wp2_with (fail)
        refine (implCostsOf_w H4 (by omega)).mono ?_
        rintro e w5 ⟨A5, n5, c5, rfl, P5, B5⟩
        rw [HN.out.costs] at P5
        have C5 := bel_trans C4 B5
        have H5 := H4.bel B5
        have Q5 := Q4.bel B5
        go_wp2_with (fail)
        refine (implTreeOf_w H5 (by omega)).mono ?_
        rintro e w6 ⟨A6, n6, c6, rfl, P6, B6⟩
        rw [HN.out.tree] at P6
        have C6 := bel_trans C5 B6
        have H6 := H5.bel B6
        have Q6 := Q5.bel B6
        have K6 : Has w6 A5 n5 (cI (costsN n2 cs)) := P5.has.bel B6
        have R6 : Has w6 A6 n6 (ints .i64 (intsOf (treeN n2 cs))) := P6.has
        obtain rfl : n5 = n2 := by have := K6.1; rw [cI_len, costs_len] at this; exact this.symm
        have hn6 : n6 ≤ 16777216 := by have h1 := R6.1; rw [ints_length, intsOf_len] at h1; have h2 := treeT_len_le cs (costsN n5 cs) n5 cs.length; unfold treeN at h1; omega
        clear P5 P6 B5 B6 H4 H5 Q4 Q5 C4 C5
        obtain ⟨bx, ox, _, _, _, _, rfl, _⟩ := Q6.at_ (show 0 < n5 by omega)
        obtain ⟨bk, ok, rfl, _, _⟩ := has_cI K6 (show 0 < n5 by omega)
        go_wp2
        go_loopw [55] (fun t wx => ∃ b : Nat, b ≤ n5 ∧ t = .int .i64 (b : Int) ∧ Below w6.heap.size w6 wx) (fun t _ => n5 - (intOf t).toNat)
        case atStart => exact ⟨0, Nat.zero_le _, rfl, Below.refl _ _⟩
        case round =>
          obtain ⟨b, hb, rfl, B7⟩ := hrel
          by_cases hbm : b < n5
          · have hbmB : decide ((b : Int) < (n5 : Int)) = true := by simp; omega
            have hbmC : decide (b < n5) = true := by simp; omega
            have H7 := H6.bel B7
            have R7 := R6.bel B7
            obtain ⟨X, q, d, y0, hq, hqd, hX⟩ := (Q6.bel B7).gi_at hbm
            have k0 := has_cI_to (K6.bel B7) hbm
            have hx := List.getElem?_eq_getElem (show b < (afterN n5 cs R).length by rw [HLB.out]; exact hbm)
            have hx4 : (clmAt (afterN n5 cs R) b).length = 4 := by rw [clm_at' hx]; exact H4B.out _ (List.mem_of_getElem? hx)
            obtain ⟨e0, e1, hE⟩ := HEND.out b hbm
            rw [hx4] at hq
            subst hq
            obtain ⟨b2, o2, hA2, hl2', y1⟩ := hX 0 (by omega)
            obtain ⟨b3, o3, hA3, _, y2⟩ := hX 1 (by omega)
            obtain ⟨b4, o4, hA4, _, y3⟩ := hX 3 (by omega)
            subst hA2
            injection hA3 with hA3; injection hA3 with q1 q2; subst q1 q2
            injection hA4 with hA4; injection hA4 with q1 q2; subst q1 q2
            rw [Nat.add_zero] at y1
            rw [e0] at y1
            rw [e1] at y2
            have HR1 := Lib.hid (HN.out.root hbm)
            clear hx hx4 hX e0 e1
            have r1 := cell_regrown y1
            have r2 := cell_regrown y2
            have r4 := cell_regrown k0
            have cR : ∀ d os, Calls Try.prog 20 #[.int .i64 (n5 : Int), .slice A1 n1 c1, .int .i64 (b : Int)] (Go.Sort.grow (redrawn wr d) os) fun e w'' => e = .returned (.int .i64 (rootN n5 cs b : Int)) ∧ ∃ p : Regrown, w'' = Go.Sort.grow (redrawn wr p.d) p.os := fun d os => by
              have h1 := implRootOf_w (c := c1) (nz := (n5 : Int)) (b := (b : Int)) (H7.bel (below_regrown wr d os)) (by omega)
              rw [HR1.out] at h1
              exact Calls.regrown_of h1
            have hneR : ((rootN n5 cs b : Int) != (rootN n5 cs b : Int)) = false := by simp
            have hneC : ((gn (costsN n5 cs) b : Int) != (gn (costsN n5 cs) b : Int)) = false := by simp
            generalize rootN n5 cs b = rb at *
            generalize gn (costsN n5 cs) b = cb at *
            rcases hE with ⟨z, h3⟩ | ⟨z, i, h3, hi⟩
            · subst z
              rw [h3] at y3
              have r3 := cell_regrown y3
              have g1 : decide ((-1 : Int) ≥ 0) = false := rfl
              have g2 : decide ((-1 : Int) < 0) = true := rfl
              clear h3 y1 y2 y3 k0
              go_wp2
              refine wp_region_quiet_below (by kernel_rfl) (by kernel_rfl) ?_
              repeat (quiet_step (first | exact cR _ _))
              refine wpQuiet_nil ?_
              intro _ hw'
              obtain ⟨⟨dq, osq⟩, hw''⟩ := hw'
              subst hw''
              have B8 := bel_trans B7 (below_regrown wr dq osq)
              go_wp2
              go_roundw
              case rel => exact ⟨b + 1, by omega, by go_num, B8⟩
              case measure => simp [intOf]; omega
            · rw [h3] at y3
              have r3 := cell_regrown y3
              have g1 : decide ((i : Int) ≥ 0) = true := by simp
              have g2 : decide ((i : Int) < 0) = false := by simp
              have g3 : ((cb : Int) == 0) = false := by simp; omega
              have cH : ∀ d os, Calls Try.prog 35 #[.slice A6 n6 c6, .int .i64 (i : Int)] (Go.Sort.grow (redrawn wr d) os) fun e w'' => e = .returned (.bool true) ∧ ∃ p : Regrown, w'' = Go.Sort.grow (redrawn wr p.d) p.os := fun d os =>
                Calls.regrown_of ((wnHas_yes (c := c6) (R7.bel (below_regrown wr d os)) (List.mem_map.2 ⟨i, hi, rfl⟩) hn6).mono fun _ _ h => ⟨h.1, h.2 ▸ Below.refl _ _⟩)
              clear h3 y1 y2 y3 k0 z hi
              go_wp2
              refine wp_region_quiet_below (by kernel_rfl) (by kernel_rfl) ?_
              repeat (quiet_step (first | exact cR _ _ | exact cH _ _))
              refine wpQuiet_nil ?_
              intro _ hw'
              obtain ⟨⟨dq, osq⟩, hw''⟩ := hw'
              subst hw''
              have B8 := bel_trans B7 (below_regrown wr dq osq)
              go_wp2
              go_roundw
              case rel => exact ⟨b + 1, by omega, by go_num, B8⟩
              case measure => simp [intOf]; omega
          · have hbmB : decide ((b : Int) < (n5 : Int)) = false := by simp; omega
            have hbmC : decide (b < n5) = false := by simp; omega
            have C7 := bel_trans C6 B7
            have Q7 := Q6.bel B7
            have H7 := H6.bel B7
            go_wp2_with (fail)
            refine (implNextClaims_w H7 Q7 (by omega) hn2).mono ?_
            rintro e w8 ⟨A8, n8, c8, rfl, P8, B8⟩
            rw [HFX.out] at P8
            have C8 := bel_trans C7 B8
            have hn8 : n8 ≤ 16777216 := by have h1 := P8.has.len; rw [HLB.out] at h1; omega
            go_wp2_with (fail)
            refine (wnPairs_same P8.has (Q7.bel B8) hn8 HTA.out).mono ?_
            rintro e w9 ⟨rfl, B9⟩
            have C9 := bel_trans C8 B9
            go_wp2
            go_ret
            exact ⟨rfl, C9⟩
  · go_enter Try.func7, Try.ntmps7
    go_wp2
    go_ret
    exact ⟨rfl, Below.refl _ _⟩
set_option maxRecDepth 100000 in
theorem lifted_FnClaims (os : Os) (started : os.Started) (H : Type) (enc : TypeId × Value → H) :
    ReturnsInHanded {} Try.checked os 7 .any (Rows.fnClaimsSpec.pre6 enc Try.prog Try.f7 Rows.fnClaimsRow.domain false) (Rows.fnClaimsSpec.post enc Try.prog Try.f7 false true false false) := by
  refine returnsInHanded_of_change (C := Try.checked) (by kernel_rfl) started (by kernel_rfl) Try.func7
    (ChangeSpec.witness6 (enc := enc) (C := Try.checked) false ⟨#[], #[.slice none 0 0], []⟩ 8 (by kernel_rfl) (by kernel_rfl) (by kernel_rfl) (by kernel_rfl)) ?_
  intro W base args ds gs before hval0 hW hcnd _
  have hval : ∀ (j : Nat) t v, Try.f7.params[j]? = some t → args[j]? = some v → Value.okWide Try.prog W .any base t v := hval0
  have hW' := hW
  obtain ⟨p, q, hA0, hV, rfl, hfz, hnd⟩ := hW
  have hA : DataW.TrodAll enc Try.prog W 0 (fun _ => true) true Try.f7.params.toList args.toList ds p := hA0
  rw [Try.params7] at hA hval
  obtain ⟨v0, vs0, d0, ds0, p0, q0, hargs, rfl, rfl, h0, r0⟩ := trodAll_cons hA
  obtain ⟨rfl, rfl, rfl⟩ := trodAll_nil r0
  obtain rfl : args = #[v0] := by cases args; simp_all
  obtain ⟨rfl, rfl⟩ := trodVars_none hV
  obtain ⟨a0, len0, cap0, rfl⟩ := okWide_slice Try.underlying22 (hval 0 22 v0 rfl rfl)
  have k0 := h0
  have lt0 : ∀ x ∈ p0, x.block < W.heap.size := by obtain ⟨m, hm⟩ := k0; exact DataW.trod_lt m _ _ _ hm
  obtain ⟨z0, H0, U0, M0⟩ := has_of_trod (k := .u8) Try.underlying22 Try.underlying5 (by kernel_rfl) h0
  clear hA0 hval0
  refine (walk_FnClaims H0 U0 M0).mono fun e W' ⟨he, bel⟩ => ?_
  subst he
  exact ⟨_, rfl, _, _, _, [], _, [], hW', trodAll_mk1 (shut_bool Try.underlying4 _), (trodAll_cons_mk (Below.trod (by kernel_rfl) (by kernel_rfl) (of_decide_eq_true (by kernel_rfl)) k0 bel lt0) trodAll_mk0), rfl, bel.frame _, fun h => by cases h⟩

theorem fnClaims_holds : Rows.FnClaimsSaid :=
  OpenClaim.holds_of_wide 7 Try.f7 rfl rfl rfl rfl rfl rfl rfl ⟨rfl, rfl, rfl, rfl, rfl⟩ rfl rfl rfl rfl rfl (by kernel_rfl) Try.func7
    (by unfold joinedFacts; with_reducible refine Bool.and_eq_true_iff.2 ⟨?_, (by as_aux_lemma => kernel_rfl)⟩; with_reducible refine Bool.and_eq_true_iff.2 ⟨?_, (by as_aux_lemma => kernel_rfl)⟩; with_reducible refine Bool.and_eq_true_iff.2 ⟨?_, (by as_aux_lemma => kernel_rfl)⟩; with_reducible refine Bool.and_eq_true_iff.2 ⟨?_, (by as_aux_lemma => kernel_rfl)⟩; with_reducible refine Bool.and_eq_true_iff.2 ⟨?_, (by with_unfolding_all exact shutMake)⟩; with_reducible refine Bool.and_eq_true_iff.2 ⟨?_, (by with_unfolding_all exact shutLifts)⟩; with_reducible refine Bool.and_eq_true_iff.2 ⟨?_, shutEnter⟩; (repeat (with_reducible refine Bool.and_eq_true_iff.2 ⟨?_, (by as_aux_lemma => kernel_rfl)⟩)); as_aux_lemma => kernel_rfl)
    (of_decide_eq_true (by kernel_rfl)) (by unfold Func.isWrapper; first | (rw [if_pos (by decide +kernel)]; kernel_rfl) | (rw [if_neg (by decide +kernel)]; exact ⟨rfl, rfl⟩))
    (fun os started H enc _ => lifted_FnClaims os started H enc)
end Go.Proofs.Ytkmdpmhaljieaaa
