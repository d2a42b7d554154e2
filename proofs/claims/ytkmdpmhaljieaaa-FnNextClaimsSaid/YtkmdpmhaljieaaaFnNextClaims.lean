/-
  FnNextClaims: for every slice of bytes the law returns true and writes nothing that was there. No condition.
-/
import Derived.Test.YtkmdpmhaljieaaaClaimsB
import Derived.Test.YtkmdpmhaljieaaaDrawNext
import Derived.Test.YtkmdpmhaljieaaaShut
namespace Go.Proofs.Ytkmdpmhaljieaaa
open Go.RowKit Go.ChangeShapes Go.WideShapes Go.ChangeAt

theorem nextI_yes {m : Nat} {ks : List Tri} {cl : List (List Int)} (h : (nextI (m : Int) ks cl).length ≠ 0) : ∃ cs, Net7 (m : Int) ks m cs ∧ cl.length = m ∧ (∀ x ∈ cl, clmOk x) ∧ nextI (m : Int) ks cl = nextN m cs cl := by
  unfold nextI at h ⊢
  split at h
  · rename_i hv
    have N := kOk_yes hv.1
    rw [Int.toNat_natCast] at N
    exact ⟨_, N, by have := hv.2.1; omega, hv.2.2, by rw [if_pos hv]; rfl⟩
  · exact (h rfl).elim
/-- What a bridge claims next: its own claim, or one over a cable. -/
theorem next_from {m : Nat} {cs : List Cab} {cl : List (List Int)} (hc : cabsOk m cs) {b : Nat} (hb : b < m) :
    clmAt (nextN m cs cl) b = clm0 b ∨ ∃ i o, i < cs.length ∧ o < m ∧ (cab cs i).1 + (cab cs i).2.1 = b + o ∧ clmAt (nextN m cs cl) b = [gi (clmAt cl o) 0, gi (clmAt cl o) 1 + ((cab cs i).2.2 : Nat), (o : Int), (i : Int)] := by
  rw [next_at hb]
  rcases best_from cs cl b cs.length with h | ⟨i, hi, h⟩
  · exact Or.inl h
  · obtain ⟨o, ho, hx⟩ := cand_some h
    exact Or.inr ⟨i, o, hi, ((other_edge hi ho).ok hc).2.1, (other_sum ho).1, hx⟩
set_option maxHeartbeats 16000000 in
set_option maxRecDepth 100000 in
theorem walk_FnNextClaims {A0 : Option Addr} {n0 c0 : Nat} {zs0 : List Int} {w : World} (h0 : Has w A0 n0 (ints .u8 zs0)) (hwf0 : ∀ z ∈ zs0, (Lit.int .u8 z).wf = true) (hc0 : n0 ≤ c0 ∧ c0 ≤ maxLen) :
    Calls Try.prog 9 #[.slice A0 n0 c0] w fun e w' => e = .returned (.bool true) ∧ Below w.heap.size w w' := by
  have hu0 : U8s zs0 := fun z hz => u8_of_wf (hwf0 z hz)
  clear hwf0
  by_cases hn0 : n0 ≤ 1048576
  · go_enter Try.func9, Try.ntmps9
    go_wp2_with (fail)
    refine (drawNextClaims_any h0 hu0 hc0).mono ?_
    rintro e w1 h
    unfold CabY at h
    obtain ⟨m, A1, n1, c1, ks, AC, nc, cc, cl, rfl, H1, T1, hn1, hm9, L1, hnc, B1⟩ := h
    have hT := nextI_told (m : Int) ks cl
    have HT := Lib.hid hT.lens
    have hl8 := hT.1
    clear T1 hT
    go_wp2_with (fail)
    refine (implNextClaims_w H1 L1 (by omega) (by omega)).mono ?_
    rintro e w2 ⟨A2, n2, c2, rfl, P2, B2⟩
    have C2 := bel_trans B1 B2
    have H2 := H1.bel B2
    have L2 := L1.bel B2
    go_wp2_with (fail)
    refine (specNextClaims_w H2 L2 (by omega) (by omega)).mono ?_
    rintro e w3 ⟨A3, n3, c3, rfl, P3, B3⟩
    have C3 := bel_trans C2 B3
    have H3 := H2.bel B3
    have L3 := L2.bel B3
    have Q3 := P2.has.bel B3
    have hl2 := Q3.len
    have hn2 : n2 ≤ 16777216 := by omega
    go_wp2_with (fail)
    refine (wnPairs_same Q3 P3.has hn2 HT.out).mono ?_
    rintro e w4 ⟨rfl, B4⟩
    have C4 := bel_trans C3 B4
    have H4 := H3.bel B4
    have L4 := L3.bel B4
    have Q4 := Q3.bel B4
    clear P2 P3 B1 B2 B3 B4 H1 H2 H3 L1 L2 L3 C2 C3 Q3
    by_cases hz : n2 = 0
    · subst hz
      have hnzB : ((0 : Int) == 0) = true := rfl
      clear hl2
      go_wp2_with (fail)
      refine (specNextClaims_w H4 L4 (by omega) (by omega)).mono ?_
      rintro e w5 ⟨A5, n5, c5, rfl, P5, B5⟩
      have C5 := bel_trans C4 B5
      go_wp2_with (fail)
      refine (wnPairs_same (Q4.bel B5) P5.has hn2 HT.out).mono ?_
      rintro e w6 ⟨rfl, B6⟩
      have C6 := bel_trans C5 B6
      go_wp2
      go_ret
      exact ⟨rfl, C6⟩
    · have hnzB : ((n2 : Int) == 0) = false := by simp; omega
      obtain ⟨cs, N, hcm, hcok, hA⟩ := nextI_yes (by rw [hl2]; exact hz)
      rw [hA] at Q4 hl2
      rw [nextN_len] at hl2
      have hm8 := N.le
      have hp0 := N.pos
      have HC := Lib.hid N.ok
      have HL := Lib.hid (show cs.length = n1 by have := H4.1; rw [N.ks_eq, List.length_map] at this; exact this)
      have HCOK := Lib.hid (show ∀ o, o < m → clmOk (clmAt cl o) from fun o ho => by
        have hx := List.getElem?_eq_getElem (show o < cl.length by rw [hcm]; exact ho)
        rw [clm_at' hx]; exact hcok _ (List.mem_of_getElem? hx))
      have H4N := Lib.hid (fun b (hb : b < m) => show (clmAt (nextN m cs cl) b).length = 4 from by
        have hx := List.getElem?_eq_getElem (show b < (nextN m cs cl).length by rw [nextN_len]; exact hb)
        rw [clm_at' hx]; exact nextN_four _ (List.mem_of_getElem? hx))
      have HFR := Lib.hid (fun b (hb : b < m) => next_from (cl := cl) N.ok hb)
      have hncm : nc = m := by have := L4.len; omega
      obtain rfl := N.ks_eq
      obtain rfl : n2 = m := hl2.symm
      obtain rfl : nc = n2 := hncm
      clear N hz hcm hcok hA
      obtain ⟨bx, ox, _, _, _, _, rfl, _⟩ := Q4.at_ (show 0 < nc by omega)
      obtain ⟨by', oy, _, _, _, _, rfl, _⟩ := L4.at_ (show 0 < nc by omega)
      go_wp2
      go_loopw [43] (fun t wx => ∃ b : Nat, b ≤ nc ∧ t = .int .i64 (b : Int) ∧ Below w4.heap.size w4 wx) (fun t _ => nc - (intOf t).toNat)
      case atStart => exact ⟨0, Nat.zero_le _, rfl, Below.refl _ _⟩
      case round =>
        obtain ⟨b, hb, rfl, B6⟩ := hrel
        by_cases hbm : b < nc
        · have hbmB : decide ((b : Int) < (nc : Int)) = true := by simp; omega
          have hbmC : decide (b < nc) = true := by simp; omega
          obtain ⟨X, q, d, y0, hq, hqd, hX⟩ := (Q4.bel B6).gi_at hbm
          rw [H4N.out b hbm] at hq
          subst hq
          obtain ⟨b2, o2, hA2, hlx, z0⟩ := hX 0 (by omega)
          obtain ⟨b3, o3, hA3, _, z1⟩ := hX 1 (by omega)
          obtain ⟨b4, o4, hA4, _, z2⟩ := hX 2 (by omega)
          obtain ⟨b5, o5, hA5, _, z3⟩ := hX 3 (by omega)
          subst hA2
          injection hA3 with hA3; injection hA3 with q1 q2; subst q1 q2
          injection hA4 with hA4; injection hA4 with q1 q2; subst q1 q2
          injection hA5 with hA5; injection hA5 with q1 q2; subst q1 q2
          rw [Nat.add_zero] at z0
          clear hX
          rcases HFR.out b hbm with hcl | ⟨i, o, hi, ho, hsum, hcl⟩
          · rw [hcl] at z0 z1 z2 z3
            have e0 : gi (clm0 b) 0 = (b : Int) := rfl
            have e1 : gi (clm0 b) 1 = 0 := rfl
            have e3 : gi (clm0 b) 3 = -1 := rfl
            rw [e0] at z0
            rw [e1] at z1
            rw [e3] at z3
            have g1 : decide ((-1 : Int) < 0) = true := rfl
            have g2 : ((b : Int) != (b : Int)) = false := by simp
            clear hcl e0 e1 e3 z2
            go_wp2
            go_roundw
            case rel => exact ⟨b + 1, by omega, by go_num, B6⟩
            case measure => simp [intOf]; omega
          · rw [hcl] at z0 z1 z2 z3
            have e0 : ∀ (p r s u : Int), gi [p, r, s, u] 0 = p := fun _ _ _ _ => rfl
            have e1 : ∀ (p r s u : Int), gi [p, r, s, u] 1 = r := fun _ _ _ _ => rfl
            have e2 : ∀ (p r s u : Int), gi [p, r, s, u] 2 = s := fun _ _ _ _ => rfl
            have e3 : ∀ (p r s u : Int), gi [p, r, s, u] 3 = u := fun _ _ _ _ => rfl
            rw [e0] at z0
            rw [e1] at z1
            rw [e2] at z2
            rw [e3] at z3
            clear hcl e0 e1 e2 e3
            have g1 : decide ((i : Int) < 0) = false := by simp
            have hin : i < n1 := by rw [← HL.out]; exact hi
            have hok := HC.out _ (cab_mem hi)
            have c1b := hok.1
            have c2b := hok.2.1
            have c3b : (cab cs i).2.2 ≤ 99 := hok.2.2.2.2
            obtain ⟨hc4, hcl0, hcl1⟩ := HCOK.out o ho
            obtain ⟨bb, ob, rfl, hbl, d0, d1, d2⟩ := (H4.bel B6).cab7 hin
            obtain ⟨Y, p, f, u0, hp, hpf, hY⟩ := (L4.bel B6).gi_at ho
            rw [hc4] at hp
            subst hp
            obtain ⟨b6, o6, hB2, hly, v0⟩ := hY 0 (by omega)
            obtain ⟨b7, o7, hB3, _, v1⟩ := hY 1 (by omega)
            subst hB2
            injection hB3 with hB3; injection hB3 with q1 q2; subst q1 q2
            rw [Nat.add_zero] at v0
            clear hY hok hc4
            generalize cab cs i = ce at *
            obtain ⟨ca, cb, cq⟩ := ce
            simp only at d0 d1 d2 c1b c2b c3b hsum z1
            generalize gi (clmAt cl o) 0 = g0v at *
            generalize gi (clmAt cl o) 1 = g1v at *
            obtain ⟨ai, hai⟩ : ∃ v : Int, (ca : Int) = v := ⟨_, rfl⟩
            obtain ⟨bi, hbi⟩ : ∃ v : Int, (cb : Int) = v := ⟨_, rfl⟩
            obtain ⟨qi, hqi⟩ : ∃ v : Int, (cq : Int) = v := ⟨_, rfl⟩
            rw [hai] at d0
            rw [hbi] at d1
            rw [hqi] at d2 z1
            obtain ⟨xi, hxi⟩ : ∃ v : Int, g1v + qi = v := ⟨_, rfl⟩
            rw [hxi] at z1
            have hsi : ai + bi = (b : Int) + (o : Int) := by omega
            have HW1 := Lib.hid (show IntKind.i64.wrap (ai + bi) = ai + bi from IntWalk.i64_in _ (by omega))
            have HW2 := Lib.hid (show IntKind.i64.wrap (ai + bi - (b : Int)) = (o : Int) from by rw [show ai + bi - (b : Int) = (o : Int) by omega]; exact IntWalk.i64_in _ (by omega))
            have HW3 := Lib.hid (show IntKind.i64.wrap (g1v + qi) = xi from by rw [hxi]; exact IntWalk.i64_in _ (by omega))
            have g2 : ((o : Int) != (o : Int)) = false := by simp
            have g3 : (g0v != g0v) = false := by simp
            have g4 : (xi != xi) = false := by simp
            have hHn := heap_alloc_new wr (.cells #[.int .i64 ai, .int .i64 bi, .int .i64 qi] 29)
            have BA := (Below.refl wr.heap.size wr).alloc (Nat.le_refl _) (.cells #[.int .i64 ai, .int .i64 bi, .int .i64 qi] 29)
            have lty : by' < wr.heap.size := World.block_lt_of_cell? wr _ u0
            clear hsum hai hbi hqi hxi hsi c1b c2b c3b hcl0 hcl1 hi
            generalize hWA : wr.alloc (.cells #[.int .i64 ai, .int .i64 bi, .int .i64 qi] 29) = WA at hHn BA
            obtain ⟨x0, x1, x2⟩ := cells3K hHn
            have BwA := bel_trans B6 BA
            have Z0 := (BA.cell (p := ⟨b2, o2, none⟩) hlx).trans z0
            have Z1 := (BA.cell (p := ⟨b2, o2 + 1, none⟩) hlx).trans z1
            have Z2 := (BA.cell (p := ⟨b2, o2 + 2, none⟩) hlx).trans z2
            have U0 := (BA.cell (p := ⟨by', oy + o, none⟩) lty).trans u0
            have V0 := (BA.cell (p := ⟨b6, o6, none⟩) hly).trans v0
            have V1 := (BA.cell (p := ⟨b6, o6 + 1, none⟩) hly).trans v1
            clear hHn v0 v1 u0
            go_upto_region 14 with fail
            clear d0 d1 d2 z0 z1 z2 z3 y0
            have W1 := HW1.out
            have W2 := HW2.out
            have W3 := HW3.out
            go_quiet (fail)
            clear W1 W2 W3
            have B7 := BwA.trans (below_drewN (B := w4.heap.size) WA nq)
            go_wp2
            go_roundw
            case rel => exact ⟨b + 1, by omega, by go_num, B7⟩
            case measure => simp [intOf]; omega
        · have hbmB : decide ((b : Int) < (nc : Int)) = false := by simp; omega
          have hbmC : decide (b < nc) = false := by simp; omega
          have C6 := bel_trans C4 B6
          go_wp2
          go_ret
          exact ⟨rfl, C6⟩
  · go_enter Try.func9, Try.ntmps9
    go_wp2
    go_ret
    exact ⟨rfl, Below.refl _ _⟩
set_option maxRecDepth 100000 in
theorem lifted_FnNextClaims (os : Os) (started : os.Started) (H : Type) (enc : TypeId × Value → H) :
    ReturnsInHanded {} Try.checked os 9 .any (Rows.fnNextClaimsSpec.pre6 enc Try.prog Try.f9 Rows.fnNextClaimsRow.domain false) (Rows.fnNextClaimsSpec.post enc Try.prog Try.f9 false true false false) := by
  refine returnsInHanded_of_change (C := Try.checked) (by kernel_rfl) started (by kernel_rfl) Try.func9
    (ChangeSpec.witness6 (enc := enc) (C := Try.checked) false ⟨#[], #[.slice none 0 0], []⟩ 8 (by kernel_rfl) (by kernel_rfl) (by kernel_rfl) (by kernel_rfl)) ?_
  intro W base args ds gs before hval0 hW hcnd _
  have hval : ∀ (j : Nat) t v, Try.f9.params[j]? = some t → args[j]? = some v → Value.okWide Try.prog W .any base t v := hval0
  have hW' := hW
  obtain ⟨p, q, hA0, hV, rfl, hfz, hnd⟩ := hW
  have hA : DataW.TrodAll enc Try.prog W 0 (fun _ => true) true Try.f9.params.toList args.toList ds p := hA0
  rw [Try.params9] at hA hval
  obtain ⟨v0, vs0, d0, ds0, p0, q0, hargs, rfl, rfl, h0, r0⟩ := trodAll_cons hA
  obtain ⟨rfl, rfl, rfl⟩ := trodAll_nil r0
  obtain rfl : args = #[v0] := by cases args; simp_all
  obtain ⟨rfl, rfl⟩ := trodVars_none hV
  obtain ⟨a0, len0, cap0, rfl⟩ := okWide_slice Try.underlying22 (hval 0 22 v0 rfl rfl)
  have k0 := h0
  have lt0 : ∀ x ∈ p0, x.block < W.heap.size := by obtain ⟨m, hm⟩ := k0; exact DataW.trod_lt m _ _ _ hm
  obtain ⟨z0, H0, U0, M0⟩ := has_of_trod (k := .u8) Try.underlying22 Try.underlying5 (by kernel_rfl) h0
  clear hA0 hval0
  refine (walk_FnNextClaims H0 U0 M0).mono fun e W' ⟨he, bel⟩ => ?_
  subst he
  exact ⟨_, rfl, _, _, _, [], _, [], hW', trodAll_mk1 (shut_bool Try.underlying4 _), (trodAll_cons_mk (Below.trod (by kernel_rfl) (by kernel_rfl) (of_decide_eq_true (by kernel_rfl)) k0 bel lt0) trodAll_mk0), rfl, bel.frame _, fun h => by cases h⟩

theorem fnNextClaims_holds : Rows.FnNextClaimsSaid :=
  OpenClaim.holds_of_wide 9 Try.f9 rfl rfl rfl rfl rfl rfl rfl ⟨rfl, rfl, rfl, rfl, rfl⟩ rfl rfl rfl rfl rfl (by kernel_rfl) Try.func9
    (by unfold joinedFacts; with_reducible refine Bool.and_eq_true_iff.2 ⟨?_, (by as_aux_lemma => kernel_rfl)⟩; with_reducible refine Bool.and_eq_true_iff.2 ⟨?_, (by as_aux_lemma => kernel_rfl)⟩; with_reducible refine Bool.and_eq_true_iff.2 ⟨?_, (by as_aux_lemma => kernel_rfl)⟩; with_reducible refine Bool.and_eq_true_iff.2 ⟨?_, (by as_aux_lemma => kernel_rfl)⟩; with_reducible refine Bool.and_eq_true_iff.2 ⟨?_, (by with_unfolding_all exact shutMake)⟩; with_reducible refine Bool.and_eq_true_iff.2 ⟨?_, (by with_unfolding_all exact shutLifts)⟩; with_reducible refine Bool.and_eq_true_iff.2 ⟨?_, shutEnter⟩; (repeat (with_reducible refine Bool.and_eq_true_iff.2 ⟨?_, (by as_aux_lemma => kernel_rfl)⟩)); as_aux_lemma => kernel_rfl)
    (of_decide_eq_true (by kernel_rfl)) (by unfold Func.isWrapper; first | (rw [if_pos (by decide +kernel)]; kernel_rfl) | (rw [if_neg (by decide +kernel)]; exact ⟨rfl, rfl⟩))
    (fun os started H enc _ => lifted_FnNextClaims os started H enc)
end Go.Proofs.Ytkmdpmhaljieaaa
