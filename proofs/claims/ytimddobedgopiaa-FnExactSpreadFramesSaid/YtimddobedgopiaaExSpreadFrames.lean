/-
  FnExactSpreadFrames: for every argument the exact law of SpreadFrames returns true and writes nothing that was there. No condition.
-/
import Derived.Test.YtimddobedgopiaaImp11e
import Derived.Test.YtimddobedgopiaaFlowS
import Derived.Test.YtimddobedgopiaaHopArg
import Derived.Test.YtimddobedgopiaaListLawsI
import Derived.Test.YtimddobedgopiaaShut
namespace Go.Proofs.Ytimddobedgopiaa
open Go.RowKit Go.ChangeShapes Go.WideShapes Go.ChangeAt

set_option maxHeartbeats 16000000 in
set_option maxRecDepth 100000 in
theorem walk_FnExactSpreadFrames {A0 A1 : Option Addr} {n0 c0 n1 c1 : Nat} {us : List Bool} {hs : List Hop3} {w : World} (h0 : Has w A0 n0 (bools us)) (_ : True) (_ : n0 ≤ c0 ∧ c0 ≤ maxLen) (h1 : HasH w A1 n1 hs) (_ : I64H hs) (hc1 : n1 ≤ c1 ∧ c1 ≤ maxLen) :
    Calls Try.prog 14 #[.slice A0 n0 c0, .slice A1 n1 c1] w fun e w' => e = .returned (.bool true) ∧ Below w.heap.size w w' := by
  have hmx : n1 ≤ 9223372036854775807 := by have h1 := hc1.1; have h2 := hc1.2; unfold maxLen at h2; omega
  obtain ⟨R, hR⟩ : ∃ R, spreadI us hs = R := ⟨_, rfl⟩
  obtain ⟨l1, l2, l4⟩ := spread_le us hs
  rw [hR] at l1 l2 l4
  have L3 := Lib.hid (show ∀ o ∈ R, o.length ≤ 16777216 from fun o ho => by have := l2 o ho; omega)
  clear l2
  have l5 : sumLenI R ≤ 480 := l4
  by_cases hn0 : n0 ≤ 1048576
  rotate_left
  · go_enter Try.func14, Try.ntmps14
    go_wp2
    go_ret
    exact ⟨rfl, Below.refl _ _⟩
  have SZ := Lib.hid (szHopS_any (A := A1) (n := n1) (c := c1) (w := w) (L := 1048576) rfl hmx)
  by_cases hn1 : n1 ≤ 1048576
  rotate_left
  · rw [if_neg hn1] at SZ
    go_enter Try.func14, Try.ntmps14
    go_wp2_with (fail)
    refine SZ.out.mono ?_
    rintro e w' ⟨rfl, rfl⟩
    go_wp2
    go_ret
    exact ⟨rfl, Below.refl _ _⟩
  rw [if_pos hn1] at SZ
  have hzB : decide ((1048576 : Int) - (n1 : Int) < 0) = false := by simp; omega
  go_enter Try.func14, Try.ntmps14
  go_wp2_with (fail)
  refine (SZ.out).mono ?_
  rintro e w' ⟨rfl, rfl⟩
  go_wp2_with (fail)
  refine (toBoolS_any (h0.bel (Below.refl _ _)) (by omega)).mono ?_
  rintro e w1 ⟨gP, rfl, P, B1⟩
  have S1 : w.heap.size ≤ w1.heap.size := B1.size
  have C1 := B1
  have bP : ∀ a : Addr, (some (⟨gP, 0, none⟩ : Addr)) = some a → w.heap.size ≤ a.block ∧ a.block < w1.heap.size := fun a ha => by cases ha; exact P.block
  go_wp2_with (fail)
  refine (toHopS_any (h1.bel C1) (by omega)).mono ?_
  rintro e w2 ⟨AQ, cQ, rfl, Q, B2⟩
  have S2 : w1.heap.size ≤ w2.heap.size := B2.size
  have C2 := bel_trans C1 B2
  have P_2 := P.bel B2
  have bQ : ∀ a, AQ = some a → w1.heap.size ≤ a.block ∧ a.block < w2.heap.size := fun a ha => by subst ha; exact World.ownsRow.lt Q a.block rfl
  go_wp2_with (fail)
  refine (specSpreadFrames_w P_2.has Q.has (by omega) (by omega) hR).mono ?_
  rintro e w3 ⟨AW, nW, cW, vW, rfl, W, B3⟩
  have S3 : w2.heap.size ≤ w3.heap.size := B3.size
  have C3 := bel_trans C2 B3
  have P_3 := P_2.bel B3
  have Q_3 := Q.bel B3
  have bW : ∀ i, InL AW vW i → w2.heap.size ≤ i ∧ i < w3.heap.size := fun i hi => W.bounds hi
  have hnW : nW ≤ 8 := by have q1 := W.has.len; omega
  go_wp2_with (fail)
  refine (toBoolS_any (h0.bel C3) (by omega)).mono ?_
  rintro e w4 ⟨gX, rfl, X, B4⟩
  have S4 : w3.heap.size ≤ w4.heap.size := B4.size
  have C4 := bel_trans C3 B4
  have W_4 := W.bel B4
  have bX : ∀ a : Addr, (some (⟨gX, 0, none⟩ : Addr)) = some a → w3.heap.size ≤ a.block ∧ a.block < w4.heap.size := fun a ha => by cases ha; exact X.block
  go_wp2_with (fail)
  refine (toHopS_any (h1.bel C4) (by omega)).mono ?_
  rintro e w5 ⟨AY, cY, rfl, Y, B5⟩
  have S5 : w4.heap.size ≤ w5.heap.size := B5.size
  have C5 := bel_trans C4 B5
  have W_5 := W_4.bel B5
  have X_5 := X.bel B5
  have bY : ∀ a, AY = some a → w4.heap.size ≤ a.block ∧ a.block < w5.heap.size := fun a ha => by subst ha; exact World.ownsRow.lt Y a.block rfl
  go_wp2_with (fail)
  refine (implSpreadFrames_w X_5.has Y.has (by omega) (by omega) hR).mono ?_
  rintro e w6 ⟨AG, nG, cG, vG, rfl, G, B6⟩
  have S6 : w5.heap.size ≤ w6.heap.size := B6.size
  have C6 := bel_trans C5 B6
  have W_6 := W_5.bel B6
  have X_6 := X_5.bel B6
  have Y_6 := Y.bel B6
  have bG : ∀ i, InL AG vG i → w5.heap.size ≤ i ∧ i < w6.heap.size := fun i hi => G.bounds hi
  have hnG : nG ≤ 8 := by have q1 := G.has.len; omega
  go_wp2_with (fail)
  refine (eqIntSS_b G.has W_6.has (by omega) L3.out).mono ?_
  rintro e w7 ⟨rfl, B7⟩
  have S7 : w6.heap.size ≤ w7.heap.size := B7.size
  have C7 := bel_trans C6 B7
  have W_7 := W_6.bel B7
  have X_7 := X_6.bel B7
  have Y_7 := Y_6.bel B7
  have G_7 := G.bel B7
  go_wp2_with (fail)
  refine (toBoolS_any (h0.bel C7) (by omega)).mono ?_
  rintro e w8 ⟨gU, rfl, U, B8⟩
  have S8 : w7.heap.size ≤ w8.heap.size := B8.size
  have C8 := bel_trans C7 B8
  have W_8 := W_7.bel B8
  have X_8 := X_7.bel B8
  have Y_8 := Y_7.bel B8
  have G_8 := G_7.bel B8
  have bU : ∀ a : Addr, (some (⟨gU, 0, none⟩ : Addr)) = some a → w7.heap.size ≤ a.block ∧ a.block < w8.heap.size := fun a ha => by cases ha; exact U.block
  go_wp2_with (fail)
  refine (eqBoolS_b X_8.has U.has (by omega)).mono ?_
  rintro e w9 ⟨rfl, B9⟩
  have S9 : w8.heap.size ≤ w9.heap.size := B9.size
  have C9 := bel_trans C8 B9
  have W_9 := W_8.bel B9
  have X_9 := X_8.bel B9
  have Y_9 := Y_8.bel B9
  have G_9 := G_8.bel B9
  have U_9 := U.bel B9
  go_wp2_with (fail)
  refine (toHopS_any (h1.bel C9) (by omega)).mono ?_
  rintro e w10 ⟨AV, cV, rfl, V, B10⟩
  have S10 : w9.heap.size ≤ w10.heap.size := B10.size
  have C10 := bel_trans C9 B10
  have W_10 := W_9.bel B10
  have X_10 := X_9.bel B10
  have Y_10 := Y_9.bel B10
  have G_10 := G_9.bel B10
  have bV : ∀ a, AV = some a → w9.heap.size ≤ a.block ∧ a.block < w10.heap.size := fun a ha => by subst ha; exact World.ownsRow.lt V a.block rfl
  go_wp2_with (fail)
  refine (eqHopS_same Y_10.has V.has (by omega)).mono ?_
  rintro e w11 ⟨rfl, B11⟩
  have S11 : w10.heap.size ≤ w11.heap.size := B11.size
  have C11 := bel_trans C10 B11
  have W_11 := W_10.bel B11
  have X_11 := X_10.bel B11
  have Y_11 := Y_10.bel B11
  have G_11 := G_10.bel B11
  have V_11 := V.bel B11
  go_wp2_with (fail)
  refine (markBoolS_any X_11 (K := 1) (by omega) (by omega)).mono ?_
  rintro e w12 ⟨rfl, _, M12⟩
  have S12 : w11.heap.size ≤ w12.heap.size := M12.size
  have C12 := bel_grown C11 M12 (fun ad ha => by have := bX ad ha; omega)
  have W_12 := W_11.keep M12 (fun i hi a ha => by have h1 := bW i hi; have h2 := bX a ha; omega)
  have Y_12 := Y_11.keep M12 (fun a ha b hb => by have h1 := bY a ha; have h2 := bX b hb; omega)
  have G_12 := G_11.keep M12 (fun i hi a ha => by have h1 := bG i hi; have h2 := bX a ha; omega)
  go_wp2_with (fail)
  refine (markHopS_any Y_12 (K := 1 + n0) (by omega) (by omega)).mono ?_
  rintro e w13 ⟨rfl, M13⟩
  have S13 : w12.heap.size ≤ w13.heap.size := M13.size
  have C13 := bel_grown C12 M13 (fun ad ha => by have := bY ad ha; omega)
  have W_13 := W_12.keep M13 (fun i hi a ha => by have h1 := bW i hi; have h2 := bY a ha; omega)
  have G_13 := G_12.keep M13 (fun i hi a ha => by have h1 := bG i hi; have h2 := bY a ha; omega)
  go_wp2_with (fail)
  refine (eqIntSS_b G_13.has W_13.has (by omega) L3.out).mono ?_
  rintro e w14 ⟨rfl, B14⟩
  have S14 : w13.heap.size ≤ w14.heap.size := B14.size
  have C14 := bel_trans C13 B14
  have W_14 := W_13.bel B14
  have G_14 := G_13.bel B14
  go_wp2_with (fail)
  refine (markIntSS_any G_14 (K := 1) (by omega) L3.out (by omega)).mono ?_
  rintro e w15 ⟨rfl, Gm, T15⟩
  have S15 : w14.heap.size ≤ w15.heap.size := T15.2.2.2.1
  have C15 : Below w.heap.size w w15 := C14.trans (T15.below (by omega) (fun v hv b hb => by have := bG b (.inr ⟨v, hv, hb⟩); omega))
  have W_15 := W_14.heapEq (w' := w15) (fun i hi => T15.2.2.2.2 _ (by have := bW i hi; omega) (fun v hv hb => by have h1 := bW i hi; have h2 := bG i (.inr ⟨v, hv, hb⟩); omega))
  go_wp2_with (fail)
  refine (heldIntSS_any (K := 1) Gm.has (by omega) L3.out (by omega)).mono ?_
  rintro e w' ⟨rfl, rfl⟩
  go_wp2_with (fail)
  refine (toBoolS_any (h0.bel C15) (by omega)).mono ?_
  rintro e w16 ⟨gZ, rfl, Z, B16⟩
  have S16 : w15.heap.size ≤ w16.heap.size := B16.size
  have C16 := bel_trans C15 B16
  have W_16 := W_15.bel B16
  have G_16 := Gm.bel B16
  have bZ : ∀ a : Addr, (some (⟨gZ, 0, none⟩ : Addr)) = some a → w15.heap.size ≤ a.block ∧ a.block < w16.heap.size := fun a ha => by cases ha; exact Z.block
  go_wp2_with (fail)
  refine (toHopS_any (h1.bel C16) (by omega)).mono ?_
  rintro e w17 ⟨AZZ, cZZ, rfl, ZZ, B17⟩
  have S17 : w16.heap.size ≤ w17.heap.size := B17.size
  have C17 := bel_trans C16 B17
  have W_17 := W_16.bel B17
  have G_17 := G_16.bel B17
  have Z_17 := Z.bel B17
  have bZZ : ∀ a, AZZ = some a → w16.heap.size ≤ a.block ∧ a.block < w17.heap.size := fun a ha => by subst ha; exact World.ownsRow.lt ZZ a.block rfl
  go_wp2_with (fail)
  refine (implSpreadFrames_w Z_17.has ZZ.has (by omega) (by omega) hR).mono ?_
  rintro e w18 ⟨AH, nH, cH, vH, rfl, H, B18⟩
  have S18 : w17.heap.size ≤ w18.heap.size := B18.size
  have C18 := bel_trans C17 B18
  have W_18 := W_17.bel B18
  have G_18 := G_17.bel B18
  have Z_18 := Z_17.bel B18
  have ZZ_18 := ZZ.bel B18
  have bH : ∀ i, InL AH vH i → w17.heap.size ≤ i ∧ i < w18.heap.size := fun i hi => H.bounds hi
  have hnH : nH ≤ 8 := by have q1 := H.has.len; omega
  go_wp2_with (fail)
  refine (eqIntSS_b H.has W_18.has (by omega) L3.out).mono ?_
  rintro e w19 ⟨rfl, B19⟩
  have S19 : w18.heap.size ≤ w19.heap.size := B19.size
  have C19 := bel_trans C18 B19
  have W_19 := W_18.bel B19
  have G_19 := G_18.bel B19
  have H_19 := H.bel B19
  go_wp2_with (fail)
  refine (heldIntSS_any (K := 1) G_19.has (by omega) L3.out (by omega)).mono ?_
  rintro e w' ⟨rfl, rfl⟩
  go_wp2
  go_ret
  exact ⟨rfl, C19⟩
set_option maxRecDepth 100000 in
theorem lifted_FnExactSpreadFrames (os : Os) (started : os.Started) (H : Type) (enc : TypeId × Value → H) :
    ReturnsInHanded {} Try.checked os 14 .any (Rows.fnExactSpreadFramesSpec.pre6 enc Try.prog Try.f14 Rows.fnExactSpreadFramesRow.domain false) (Rows.fnExactSpreadFramesSpec.post enc Try.prog Try.f14 false true false false) := by
  refine returnsInHanded_of_change (C := Try.checked) (by kernel_rfl) started (by kernel_rfl) Try.func14
    (ChangeSpec.witness6 (enc := enc) (C := Try.checked) false ⟨#[], #[.slice none 0 0, .slice none 0 0], []⟩ 8 (by kernel_rfl) (by kernel_rfl) (by kernel_rfl) (by kernel_rfl)) ?_
  intro W base args ds gs before hval0 hW hcnd _
  have hval : ∀ (j : Nat) t v, Try.f14.params[j]? = some t → args[j]? = some v → Value.okWide Try.prog W .any base t v := hval0
  have hW' := hW
  obtain ⟨p, q, hA0, hV, rfl, hfz, hnd⟩ := hW
  have hA : DataW.TrodAll enc Try.prog W 0 (fun _ => true) true Try.f14.params.toList args.toList ds p := hA0
  rw [Try.params14] at hA hval
  obtain ⟨v0, vs0, d0, ds0, p0, q0, hargs, rfl, rfl, h0, r0⟩ := trodAll_cons hA
  obtain ⟨v1, vs1, d1, ds1, p1, q1, rfl, rfl, rfl, h1, r1⟩ := trodAll_cons r0
  obtain ⟨rfl, rfl, rfl⟩ := trodAll_nil r1
  obtain rfl : args = #[v0, v1] := by cases args; simp_all
  obtain ⟨rfl, rfl⟩ := trodVars_none hV
  obtain ⟨a0, len0, cap0, rfl⟩ := okWide_slice Try.underlying27 (hval 0 27 v0 rfl rfl)
  have k0 := h0
  have lt0 : ∀ x ∈ p0, x.block < W.heap.size := by obtain ⟨m, hm⟩ := k0; exact DataW.trod_lt m _ _ _ hm
  obtain ⟨z0, H0, U0, M0⟩ := hasB_of_trod Try.underlying27 Try.underlying4 (by kernel_rfl) h0
  obtain ⟨a1, len1, cap1, rfl⟩ := okWide_slice Try.underlying53 (hval 1 53 v1 rfl rfl)
  have k1 := h1
  have lt1 : ∀ x ∈ p1, x.block < W.heap.size := by obtain ⟨m, hm⟩ := k1; exact DataW.trod_lt m _ _ _ hm
  obtain ⟨z1, H1, U1, M1⟩ := hasH_of_trod Try.underlying53 Try.underlying81 (by kernel_rfl) (by kernel_rfl) Try.underlying3 Try.underlying3 Try.underlying3 h1
  clear hA0 hval0
  refine (walk_FnExactSpreadFrames H0 U0 M0 H1 U1 M1).mono fun e W' ⟨he, bel⟩ => ?_
  subst he
  exact ⟨_, rfl, _, _, _, [], _, [], hW', trodAll_mk1 (shut_bool Try.underlying4 _), (trodAll_cons_mk (Below.trod (by kernel_rfl) (by kernel_rfl) (of_decide_eq_true (by kernel_rfl)) k0 bel lt0) (trodAll_cons_mk (Below.trod (by kernel_rfl) (by kernel_rfl) (of_decide_eq_true (by kernel_rfl)) k1 bel lt1) trodAll_mk0)), rfl, bel.frame _, fun h => by cases h⟩

theorem fnExactSpreadFrames_holds : Rows.FnExactSpreadFramesSaid :=
  OpenClaim.holds_of_wide 14 Try.f14 rfl rfl rfl rfl rfl rfl rfl ⟨rfl, rfl, rfl, rfl, rfl⟩ rfl rfl rfl rfl rfl (by kernel_rfl) Try.func14
    (by unfold joinedFacts; with_reducible refine Bool.and_eq_true_iff.2 ⟨?_, (by as_aux_lemma => kernel_rfl)⟩; with_reducible refine Bool.and_eq_true_iff.2 ⟨?_, (by as_aux_lemma => kernel_rfl)⟩; with_reducible refine Bool.and_eq_true_iff.2 ⟨?_, (by as_aux_lemma => kernel_rfl)⟩; with_reducible refine Bool.and_eq_true_iff.2 ⟨?_, (by as_aux_lemma => kernel_rfl)⟩; with_reducible refine Bool.and_eq_true_iff.2 ⟨?_, (by with_unfolding_all exact shutMake)⟩; with_reducible refine Bool.and_eq_true_iff.2 ⟨?_, (by with_unfolding_all exact shutLifts)⟩; with_reducible refine Bool.and_eq_true_iff.2 ⟨?_, shutEnter⟩; (repeat (with_reducible refine Bool.and_eq_true_iff.2 ⟨?_, (by as_aux_lemma => kernel_rfl)⟩)); as_aux_lemma => kernel_rfl)
    (of_decide_eq_true (by kernel_rfl)) (by unfold Func.isWrapper; first | (rw [if_pos (by decide +kernel)]; kernel_rfl) | (rw [if_neg (by decide +kernel)]; exact ⟨rfl, rfl⟩))
    (fun os started H enc _ => lifted_FnExactSpreadFrames os started H enc)
end Go.Proofs.Ytimddobedgopiaa
