/-
  FnClaimsBetter: for every slice of bytes the law returns true and writes nothing that was there. No condition.
-/
import Derived.Test.YtkmdpmhaljieaaaImp7i
import Derived.Test.YtkmdpmhaljieaaaCabN
import Derived.Test.YtkmdpmhaljieaaaDrawCabB
import Derived.Test.YtkmdpmhaljieaaaWnPairs
import Derived.Test.YtkmdpmhaljieaaaShut
namespace Go.Proofs.Ytkmdpmhaljieaaa
open Go.RowKit Go.ChangeShapes Go.WideShapes Go.ChangeAt

theorem afterI_yes {m : Nat} {ks : List Tri} {x : Int} (h : (afterI (m : Int) ks x).length ≠ 0) : ∃ cs R, Net7 (m : Int) ks m cs ∧ x = ((R : Nat) : Int) ∧ R ≤ 100 ∧ afterI (m : Int) ks x = afterN m cs R := by
  unfold afterI at h ⊢
  split at h
  · rename_i hv
    have N := kOk_yes hv.1
    rw [Int.toNat_natCast] at N
    obtain ⟨R, rfl⟩ := Int.eq_ofNat_of_zero_le hv.2.1
    exact ⟨_, R, N, rfl, by omega, by rw [if_pos hv]; rfl⟩
  · exact (h rfl).elim
theorem afterI_len (m : Nat) (ks : List Tri) (x : Int) : (afterI (m : Int) ks x).length ≤ 8 := (afterI_told _ ks x).1
/-- A list's inner slice and its number. -/
theorem HasLI.gi_at {w : World} {b o n : Nat} {l : List (List Int)} (h : HasLI w (some ⟨b, o, none⟩) n l) {i : Nat} (hi : i < n) : ∃ X q d, w.cell? ⟨b, o + i, none⟩ = some (.slice X q d) ∧ q = (clmAt l i).length ∧ q ≤ d ∧ ∀ j, j < q → ∃ b2 o2, X = some ⟨b2, o2, none⟩ ∧ b2 < w.heap.size ∧ w.cell? ⟨b2, o2 + j, none⟩ = some (.int .i64 (gi (clmAt l i) j)) := by
  obtain ⟨b', o', X, q, d, x, e, hbl, hx, hc, hqd, hX⟩ := h.at_ hi
  cases e
  rw [clm_at' hx]
  exact ⟨X, q, d, hc, hX.len.symm, hqd, fun j hj => has_gi hX hj⟩
set_option maxHeartbeats 16000000 in
set_option maxRecDepth 100000 in
theorem walk_FnClaimsBetter {A0 : Option Addr} {n0 c0 : Nat} {zs0 : List Int} {w : World} (h0 : Has w A0 n0 (ints .u8 zs0)) (hwf0 : ∀ z ∈ zs0, (Lit.int .u8 z).wf = true) (hc0 : n0 ≤ c0 ∧ c0 ≤ maxLen) :
    Calls Try.prog 8 #[.slice A0 n0 c0] w fun e w' => e = .returned (.bool true) ∧ Below w.heap.size w w' := by
  have hu0 : U8s zs0 := fun z hz => u8_of_wf (hwf0 z hz)
  clear hwf0
  by_cases hn0 : n0 ≤ 1048576
  · go_enter Try.func8, Try.ntmps8
    go_wp2_with (fail)
    refine (drawClaimsAfter_any h0 hu0 hc0).mono ?_
    rintro e w1 h
    unfold CabX at h
    obtain ⟨m, x, A1, n1, c1, ks, rfl, O1, T1, hn1, hm9, hxb, B1⟩ := h
    have H1 := O1.has
    have hT := afterI_told (m : Int) ks x
    have HT := Lib.hid hT.lens
    have hl8 := hT.1
    clear O1 T1 hT
    go_wp2_with (fail)
    refine (implClaimsAfter_w H1 (by omega)).mono ?_
    rintro e w2 ⟨A2, n2, c2, rfl, P2, B2⟩
    have C2 := bel_trans B1 B2
    have H2 := H1.bel B2
    go_wp2_with (fail)
    refine (specClaimsAfter_w H2 (by omega)).mono ?_
    rintro e w3 ⟨A3, n3, c3, rfl, P3, B3⟩
    have C3 := bel_trans C2 B3
    have H3 := H2.bel B3
    have Q3 := P2.has.bel B3
    have hl2 := Q3.len
    have hn2 : n2 ≤ 16777216 := by omega
    go_wp2_with (fail)
    refine (wnPairs_same Q3 P3.has hn2 HT.out).mono ?_
    rintro e w4 ⟨rfl, B4⟩
    have C4 := bel_trans C3 B4
    have H4 := H3.bel B4
    have Q4 := Q3.bel B4
    clear P2 P3 B1 B2 B3 B4 H1 H2 H3 C2 C3 Q3
    by_cases hz : n2 = 0
    · subst hz
      have hnzB : ((0 : Int) == 0) = true := rfl
      clear hl2
      go_wp2_with (fail)
      refine (specClaimsAfter_w H4 (by omega)).mono ?_
      rintro e w5 ⟨A5, n5, c5, rfl, P5, B5⟩
      have C5 := bel_trans C4 B5
      go_wp2_with (fail)
      refine (wnPairs_same (Q4.bel B5) P5.has hn2 HT.out).mono ?_
      rintro e w6 ⟨rfl, B6⟩
      have C6 := bel_trans C5 B6
      have hF := firstI_told (m : Int)
      have HF := Lib.hid hF.lens
      have hF8 := hF.1
      clear hF
      go_wp2_with (fail)
      refine (implFirstClaims_w).mono ?_
      rintro e w7 ⟨A7, n7, c7, rfl, P7, B7⟩
      have C7 := bel_trans C6 B7
      go_wp2_with (fail)
      refine (specFirstClaims_w (by omega)).mono ?_
      rintro e w8 ⟨A8, n8, c8, rfl, P8, B8⟩
      have C8 := bel_trans C7 B8
      have hl7 := P7.has.len
      go_wp2_with (fail)
      refine (wnPairs_same (P7.has.bel B8) P8.has (by omega) HF.out).mono ?_
      rintro e w9 ⟨rfl, B9⟩
      have C9 := bel_trans C8 B9
      go_wp2
      go_ret
      exact ⟨rfl, C9⟩
    · have hnzB : ((n2 : Int) == 0) = false := by simp; omega
      obtain ⟨cs, R, N, rfl, hR, hA⟩ := afterI_yes (by rw [hl2]; exact hz)
      rw [hA] at Q4 hl2
      rw [after_len] at hl2
      have hm8 := N.le
      have hp0 := N.pos
      have HNX := Lib.hid (show nextI (m : Int) ks (afterN m cs R) = afterN m cs (R + 1) from N.next (after_len m cs R) (N.clms hR))
      have HC := Lib.hid N.ok
      have HMONO := Lib.hid (after_mono N.ok R)
      have H4B := Lib.hid (afterN_four (n := m) (cs := cs) R)
      have H4A := Lib.hid (afterN_four (n := m) (cs := cs) (R + 1))
      obtain rfl : n2 = m := hl2.symm
      have HLA := Lib.hid (after_len n2 cs (R + 1))
      have HLB := Lib.hid (after_len n2 cs R)
      clear N hz hxb hA
      go_wp2_with (fail)
      refine (implNextClaims_w H4 Q4 (by omega) hn2).mono ?_
      rintro e w5 ⟨A5, n5, c5, rfl, P5, B5⟩
      rw [HNX.out] at P5
      have C5 := bel_trans C4 B5
      have Q5 := Q4.bel B5
      have K5 := P5.has
      obtain rfl : n5 = n2 := by have := K5.len; rw [HLA.out] at this; exact this.symm
      clear P5 B5 C4 H4 Q4
      obtain ⟨bx, ox, _, _, _, _, rfl, _⟩ := Q5.at_ (show 0 < n5 by omega)
      obtain ⟨by', oy, _, _, _, _, rfl, _⟩ := K5.at_ (show 0 < n5 by omega)
      go_wp2
      go_loopw [52] (fun t wx => ∃ b : Nat, b ≤ n5 ∧ t = .int .i64 (b : Int) ∧ Below w5.heap.size w5 wx) (fun t _ => n5 - (intOf t).toNat)
      case atStart => exact ⟨0, Nat.zero_le _, rfl, Below.refl _ _⟩
      case round =>
        obtain ⟨b, hb, rfl, B6⟩ := hrel
        by_cases hbm : b < n5
        · have hbmB : decide ((b : Int) < (n5 : Int)) = true := by simp; omega
          have hbmC : decide (b < n5) = true := by simp; omega
          obtain ⟨X, q, d, y0, hq, hqd, hX⟩ := (Q5.bel B6).gi_at hbm
          obtain ⟨Y, p, f, z0, hp, hpd, hY⟩ := (K5.bel B6).gi_at hbm
          have hx := List.getElem?_eq_getElem (show b < (afterN n5 cs R).length by rw [HLB.out]; exact hbm)
          have hy := List.getElem?_eq_getElem (show b < (afterN n5 cs (R + 1)).length by rw [HLA.out]; exact hbm)
          have hx4 : (clmAt (afterN n5 cs R) b).length = 4 := by rw [clm_at' hx]; exact H4B.out _ (List.mem_of_getElem? hx)
          have hy4 : (clmAt (afterN n5 cs (R + 1)) b).length = 4 := by rw [clm_at' hy]; exact H4A.out _ (List.mem_of_getElem? hy)
          have hmo := HMONO.out b hbm
          unfold le2 at hmo
          rw [hx4] at hq
          rw [hy4] at hp
          subst hq hp
          obtain ⟨b2, o2, hA2, _, y1⟩ := hX 0 (by omega)
          obtain ⟨b3, o3, hA3, _, y2⟩ := hX 1 (by omega)
          subst hA2
          injection hA3 with hA3; injection hA3 with q1 q2; subst q1 q2
          obtain ⟨b4, o4, hA4, _, z1⟩ := hY 0 (by omega)
          obtain ⟨b5, o5, hA5, _, z2⟩ := hY 1 (by omega)
          subst hA4
          injection hA5 with hA5; injection hA5 with q1 q2; subst q1 q2
          rw [Nat.add_zero] at y1 z1
          generalize gi (clmAt (afterN n5 cs R) b) 0 = u0 at *
          generalize gi (clmAt (afterN n5 cs R) b) 1 = u1 at *
          generalize gi (clmAt (afterN n5 cs (R + 1)) b) 0 = v0 at *
          generalize gi (clmAt (afterN n5 cs (R + 1)) b) 1 = v1 at *
          have hg1 : decide (v0 > u0) = false := decide_eq_false (by omega)
          have hg2 : decide (u0 < v0) = false := decide_eq_false (by omega)
          clear hx hy hx4 hy4 hX hY
          by_cases he : v0 = u0
          · have heB : (v0 == u0) = true := by simp [he]
            have hg3 : decide (v1 > u1) = false := decide_eq_false (by omega)
            have hg4 : decide (u1 < v1) = false := decide_eq_false (by omega)
            clear hmo he
            go_wp2
            go_quiet (fail)
            have B7 := B6.trans (below_drewN (B := w5.heap.size) wr nq)
            go_wp2
            go_roundw
            case rel => exact ⟨b + 1, by omega, by go_num, B7⟩
            case measure => simp [intOf]; omega
          · have heB : (v0 == u0) = false := by simp [he]
            clear hmo he
            go_wp2
            go_quiet (fail)
            have B7 := B6.trans (below_drewN (B := w5.heap.size) wr nq)
            go_wp2
            go_roundw
            case rel => exact ⟨b + 1, by omega, by go_num, B7⟩
            case measure => simp [intOf]; omega
        · have hbmB : decide ((b : Int) < (n5 : Int)) = false := by simp; omega
          have hbmC : decide (b < n5) = false := by simp; omega
          have C6 := bel_trans C5 B6
          have hfin : ((n5 : Int) == (n5 : Int)) = true := by simp
          go_wp2
          go_ret
          exact ⟨rfl, C6⟩
  · go_enter Try.func8, Try.ntmps8
    go_wp2
    go_ret
    exact ⟨rfl, Below.refl _ _⟩
set_option maxRecDepth 100000 in
theorem lifted_FnClaimsBetter (os : Os) (started : os.Started) (H : Type) (enc : TypeId × Value → H) :
    ReturnsInHanded {} Try.checked os 8 .any (Rows.fnClaimsBetterSpec.pre6 enc Try.prog Try.f8 Rows.fnClaimsBetterRow.domain false) (Rows.fnClaimsBetterSpec.post enc Try.prog Try.f8 false true false false) := by
  refine returnsInHanded_of_change (C := Try.checked) (by kernel_rfl) started (by kernel_rfl) Try.func8
    (ChangeSpec.witness6 (enc := enc) (C := Try.checked) false ⟨#[], #[.slice none 0 0], []⟩ 8 (by kernel_rfl) (by kernel_rfl) (by kernel_rfl) (by kernel_rfl)) ?_
  intro W base args ds gs before hval0 hW hcnd _
  have hval : ∀ (j : Nat) t v, Try.f8.params[j]? = some t → args[j]? = some v → Value.okWide Try.prog W .any base t v := hval0
  have hW' := hW
  obtain ⟨p, q, hA0, hV, rfl, hfz, hnd⟩ := hW
  have hA : DataW.TrodAll enc Try.prog W 0 (fun _ => true) true Try.f8.params.toList args.toList ds p := hA0
  rw [Try.params8] at hA hval
  obtain ⟨v0, vs0, d0, ds0, p0, q0, hargs, rfl, rfl, h0, r0⟩ := trodAll_cons hA
  obtain ⟨rfl, rfl, rfl⟩ := trodAll_nil r0
  obtain rfl : args = #[v0] := by cases args; simp_all
  obtain ⟨rfl, rfl⟩ := trodVars_none hV
  obtain ⟨a0, len0, cap0, rfl⟩ := okWide_slice Try.underlying22 (hval 0 22 v0 rfl rfl)
  have k0 := h0
  have lt0 : ∀ x ∈ p0, x.block < W.heap.size := by obtain ⟨m, hm⟩ := k0; exact DataW.trod_lt m _ _ _ hm
  obtain ⟨z0, H0, U0, M0⟩ := has_of_trod (k := .u8) Try.underlying22 Try.underlying5 (by kernel_rfl) h0
  clear hA0 hval0
  refine (walk_FnClaimsBetter H0 U0 M0).mono fun e W' ⟨he, bel⟩ => ?_
  subst he
  exact ⟨_, rfl, _, _, _, [], _, [], hW', trodAll_mk1 (shut_bool Try.underlying4 _), (trodAll_cons_mk (Below.trod (by kernel_rfl) (by kernel_rfl) (of_decide_eq_true (by kernel_rfl)) k0 bel lt0) trodAll_mk0), rfl, bel.frame _, fun h => by cases h⟩

theorem fnClaimsBetter_holds : Rows.FnClaimsBetterSaid :=
  OpenClaim.holds_of_wide 8 Try.f8 rfl rfl rfl rfl rfl rfl rfl ⟨rfl, rfl, rfl, rfl, rfl⟩ rfl rfl rfl rfl rfl (by kernel_rfl) Try.func8
    (by unfold joinedFacts; with_reducible refine Bool.and_eq_true_iff.2 ⟨?_, (by as_aux_lemma => kernel_rfl)⟩; with_reducible refine Bool.and_eq_true_iff.2 ⟨?_, (by as_aux_lemma => kernel_rfl)⟩; with_reducible refine Bool.and_eq_true_iff.2 ⟨?_, (by as_aux_lemma => kernel_rfl)⟩; with_reducible refine Bool.and_eq_true_iff.2 ⟨?_, (by as_aux_lemma => kernel_rfl)⟩; with_reducible refine Bool.and_eq_true_iff.2 ⟨?_, (by with_unfolding_all exact shutMake)⟩; with_reducible refine Bool.and_eq_true_iff.2 ⟨?_, (by with_unfolding_all exact shutLifts)⟩; with_reducible refine Bool.and_eq_true_iff.2 ⟨?_, shutEnter⟩; (repeat (with_reducible refine Bool.and_eq_true_iff.2 ⟨?_, (by as_aux_lemma => kernel_rfl)⟩)); as_aux_lemma => kernel_rfl)
    (of_decide_eq_true (by kernel_rfl)) (by unfold Func.isWrapper; first | (rw [if_pos (by decide +kernel)]; kernel_rfl) | (rw [if_neg (by decide +kernel)]; exact ⟨rfl, rfl⟩))
    (fun os started H enc _ => lifted_FnClaimsBetter os started H enc)
end Go.Proofs.Ytkmdpmhaljieaaa
