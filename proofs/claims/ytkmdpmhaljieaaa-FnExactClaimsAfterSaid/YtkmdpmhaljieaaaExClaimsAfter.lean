/-
  FnExactClaimsAfter: for every argument the exact law of ClaimsAfter returns true and writes nothing that was there. No condition.
-/
import Derived.Test.YtkmdpmhaljieaaaImp7i
import Derived.Test.YtkmdpmhaljieaaaCabN
import Derived.Test.YtkmdpmhaljieaaaCabLaws
import Derived.Test.YtkmdpmhaljieaaaListLawsI
import Derived.Test.YtkmdpmhaljieaaaShut
namespace Go.Proofs.Ytkmdpmhaljieaaa
open Go.RowKit Go.ChangeShapes Go.WideShapes Go.ChangeAt

set_option maxHeartbeats 16000000 in
set_option maxRecDepth 100000 in
theorem walk_FnExactClaimsAfter {a0 : Int} {A1 : Option Addr} {n1 c1 : Nat} {ks : List Tri} {a2 : Int} {w : World} (_ : -9223372036854775808 ≤ a0 ∧ a0 ≤ 9223372036854775807) (h1 : HasK w A1 n1 ks) (_ : I64K ks) (hc1 : n1 ≤ c1 ∧ c1 ≤ maxLen) (_ : -9223372036854775808 ≤ a2 ∧ a2 ≤ 9223372036854775807) :
    Calls Try.prog 17 #[.int .i64 a0, .slice A1 n1 c1, .int .i64 a2] w fun e w' => e = .returned (.bool true) ∧ Below w.heap.size w w' := by
  have hT := afterI_told a0 ks a2
  have L3 := Lib.hid hT.lens
  have LS : sumLenI (afterI a0 ks a2) = 4 * (afterI a0 ks a2).length := sum4 _ hT.2
  have LL := hT.1
  clear hT
  have hmx : n1 ≤ 9223372036854775807 := by have h1 := hc1.1; have h2 := hc1.2; unfold maxLen at h2; omega
  have SZ := Lib.hid (szCableS_any (A := A1) (n := n1) (c := c1) (w := w) (L := 1048576) rfl hmx)
  by_cases hn1 : n1 ≤ 1048576
  rotate_left
  · rw [if_neg hn1] at SZ
    go_enter Try.func17, Try.ntmps17
    go_wp2_with (fail)
    refine SZ.out.mono ?_
    rintro e w' ⟨rfl, rfl⟩
    go_wp2
    go_ret
    exact ⟨rfl, Below.refl _ _⟩
  rw [if_pos hn1] at SZ
  have hzB : decide ((1048576 : Int) - (n1 : Int) < 0) = false := by simp; omega
  go_enter Try.func17, Try.ntmps17
  go_wp2_with (fail)
  refine (SZ.out).mono ?_
  rintro e w' ⟨rfl, rfl⟩
  go_wp2_with (fail)
  refine (toCableS_any (h1.bel (Below.refl _ _)) (by omega)).mono ?_
  rintro e w1 ⟨AP, cP, rfl, P, B1⟩
  have S1 : w.heap.size ≤ w1.heap.size := B1.size
  have C1 := B1
  have bP : ∀ a, AP = some a → w.heap.size ≤ a.block ∧ a.block < w1.heap.size := fun a ha => by subst ha; exact World.ownsRow.lt P a.block rfl
  go_wp2_with (fail)
  refine (specClaimsAfter_w P.has (by omega)).mono ?_
  rintro e w2 ⟨AW, nW, cW, rfl, ⟨vW, W⟩, B2⟩
  have S2 : w1.heap.size ≤ w2.heap.size := B2.size
  have C2 := bel_trans C1 B2
  have P_2 := P.bel B2
  have bW : ∀ i, InL AW vW i → w1.heap.size ≤ i ∧ i < w2.heap.size := fun i hi => W.bounds hi
  have hnW : nW ≤ 8 := by have q1 := W.has.len; omega
  go_wp2_with (fail)
  refine (toCableS_any (h1.bel C2) (by omega)).mono ?_
  rintro e w3 ⟨AX, cX, rfl, X, B3⟩
  have S3 : w2.heap.size ≤ w3.heap.size := B3.size
  have C3 := bel_trans C2 B3
  have W_3 := W.bel B3
  have bX : ∀ a, AX = some a → w2.heap.size ≤ a.block ∧ a.block < w3.heap.size := fun a ha => by subst ha; exact World.ownsRow.lt X a.block rfl
  go_wp2_with (fail)
  refine (implClaimsAfter_w X.has (by omega)).mono ?_
  rintro e w4 ⟨AG, nG, cG, rfl, ⟨vG, G⟩, B4⟩
  have S4 : w3.heap.size ≤ w4.heap.size := B4.size
  have C4 := bel_trans C3 B4
  have W_4 := W_3.bel B4
  have X_4 := X.bel B4
  have bG : ∀ i, InL AG vG i → w3.heap.size ≤ i ∧ i < w4.heap.size := fun i hi => G.bounds hi
  have hnG : nG ≤ 8 := by have q1 := G.has.len; omega
  go_wp2_with (fail)
  refine (eqIntSS_b G.has W_4.has (by omega) L3.out).mono ?_
  rintro e w5 ⟨rfl, B5⟩
  have S5 : w4.heap.size ≤ w5.heap.size := B5.size
  have C5 := bel_trans C4 B5
  have W_5 := W_4.bel B5
  have X_5 := X_4.bel B5
  have G_5 := G.bel B5
  go_wp2_with (fail)
  refine (toCableS_any (h1.bel C5) (by omega)).mono ?_
  rintro e w6 ⟨AY, cY, rfl, Y, B6⟩
  have S6 : w5.heap.size ≤ w6.heap.size := B6.size
  have C6 := bel_trans C5 B6
  have W_6 := W_5.bel B6
  have X_6 := X_5.bel B6
  have G_6 := G_5.bel B6
  have bY : ∀ a, AY = some a → w5.heap.size ≤ a.block ∧ a.block < w6.heap.size := fun a ha => by subst ha; exact World.ownsRow.lt Y a.block rfl
  go_wp2_with (fail)
  refine (eqCableS_same X_6.has Y.has (by omega)).mono ?_
  rintro e w7 ⟨rfl, B7⟩
  have S7 : w6.heap.size ≤ w7.heap.size := B7.size
  have C7 := bel_trans C6 B7
  have W_7 := W_6.bel B7
  have X_7 := X_6.bel B7
  have G_7 := G_6.bel B7
  have Y_7 := Y.bel B7
  go_wp2_with (fail)
  refine (markCableS_any X_7 (K := 1) (by omega) (by omega)).mono ?_
  rintro e w8 ⟨rfl, M8⟩
  have S8 : w7.heap.size ≤ w8.heap.size := M8.size
  have C8 := bel_grown C7 M8 (fun ad ha => by have := bX ad ha; omega)
  have W_8 := W_7.heapEq (w' := w8) (fun i hi => M8.block i (by have := bW i hi; omega) (fun hh => by obtain ⟨ad, ha, hb⟩ := Option.map_eq_some_iff.1 hh.symm; have h1 := bW i hi; have h2 := bX ad ha; omega))
  have G_8 := G_7.heapEq (w' := w8) (fun i hi => M8.block i (by have := bG i hi; omega) (fun hh => by obtain ⟨ad, ha, hb⟩ := Option.map_eq_some_iff.1 hh.symm; have h1 := bG i hi; have h2 := bX ad ha; omega))
  go_wp2_with (fail)
  refine (eqIntSS_b G_8.has W_8.has (by omega) L3.out).mono ?_
  rintro e w9 ⟨rfl, B9⟩
  have S9 : w8.heap.size ≤ w9.heap.size := B9.size
  have C9 := bel_trans C8 B9
  have W_9 := W_8.bel B9
  have G_9 := G_8.bel B9
  go_wp2_with (fail)
  refine (markIntSS_any G_9 (K := 1) (by omega) L3.out (by omega)).mono ?_
  rintro e w10 ⟨rfl, Gm, T10⟩
  have S10 : w9.heap.size ≤ w10.heap.size := T10.2.2.2.1
  have C10 : Below w.heap.size w w10 := C9.trans (T10.below (by omega) (fun v hv b hb => by have := bG b (.inr ⟨v, hv, hb⟩); omega))
  have W_10 := W_9.heapEq (w' := w10) (fun i hi => T10.2.2.2.2 _ (by have := bW i hi; omega) (fun v hv hb => by have h1 := bW i hi; have h2 := bG i (.inr ⟨v, hv, hb⟩); omega))
  go_wp2_with (fail)
  refine (heldIntSS_any (K := 1) Gm.has (by omega) L3.out (by omega)).mono ?_
  rintro e w' ⟨rfl, rfl⟩
  go_wp2_with (fail)
  refine (toCableS_any (h1.bel C10) (by omega)).mono ?_
  rintro e w11 ⟨AZ, cZ, rfl, Z, B11⟩
  have S11 : w10.heap.size ≤ w11.heap.size := B11.size
  have C11 := bel_trans C10 B11
  have W_11 := W_10.bel B11
  have G_11 := Gm.bel B11
  have bZ : ∀ a, AZ = some a → w10.heap.size ≤ a.block ∧ a.block < w11.heap.size := fun a ha => by subst ha; exact World.ownsRow.lt Z a.block rfl
  go_wp2_with (fail)
  refine (implClaimsAfter_w Z.has (by omega)).mono ?_
  rintro e w12 ⟨AH, nH, cH, rfl, ⟨vH, H⟩, B12⟩
  have S12 : w11.heap.size ≤ w12.heap.size := B12.size
  have C12 := bel_trans C11 B12
  have W_12 := W_11.bel B12
  have G_12 := G_11.bel B12
  have Z_12 := Z.bel B12
  have bH : ∀ i, InL AH vH i → w11.heap.size ≤ i ∧ i < w12.heap.size := fun i hi => H.bounds hi
  have hnH : nH ≤ 8 := by have q1 := H.has.len; omega
  go_wp2_with (fail)
  refine (eqIntSS_b H.has W_12.has (by omega) L3.out).mono ?_
  rintro e w13 ⟨rfl, B13⟩
  have S13 : w12.heap.size ≤ w13.heap.size := B13.size
  have C13 := bel_trans C12 B13
  have W_13 := W_12.bel B13
  have G_13 := G_12.bel B13
  have H_13 := H.bel B13
  go_wp2_with (fail)
  refine (heldIntSS_any (K := 1) G_13.has (by omega) L3.out (by omega)).mono ?_
  rintro e w' ⟨rfl, rfl⟩
  go_wp2
  go_ret
  exact ⟨rfl, C13⟩
set_option maxRecDepth 100000 in
theorem lifted_FnExactClaimsAfter (os : Os) (started : os.Started) (H : Type) (enc : TypeId × Value → H) :
    ReturnsInHanded {} Try.checked os 17 .any (Rows.fnExactClaimsAfterSpec.pre6 enc Try.prog Try.f17 Rows.fnExactClaimsAfterRow.domain false) (Rows.fnExactClaimsAfterSpec.post enc Try.prog Try.f17 false true false false) := by
  refine returnsInHanded_of_change (C := Try.checked) (by kernel_rfl) started (by kernel_rfl) Try.func17
    (ChangeSpec.witness6 (enc := enc) (C := Try.checked) false ⟨#[], #[.int .i64 0, .slice none 0 0, .int .i64 0], []⟩ 8 (by kernel_rfl) (by kernel_rfl) (by kernel_rfl) (by kernel_rfl)) ?_
  intro W base args ds gs before hval0 hW hcnd _
  have hval : ∀ (j : Nat) t v, Try.f17.params[j]? = some t → args[j]? = some v → Value.okWide Try.prog W .any base t v := hval0
  have hW' := hW
  obtain ⟨p, q, hA0, hV, rfl, hfz, hnd⟩ := hW
  have hA : DataW.TrodAll enc Try.prog W 0 (fun _ => true) true Try.f17.params.toList args.toList ds p := hA0
  rw [Try.params17] at hA hval
  obtain ⟨v0, vs0, d0, ds0, p0, q0, hargs, rfl, rfl, h0, r0⟩ := trodAll_cons hA
  obtain ⟨v1, vs1, d1, ds1, p1, q1, rfl, rfl, rfl, h1, r1⟩ := trodAll_cons r0
  obtain ⟨v2, vs2, d2, ds2, p2, q2, rfl, rfl, rfl, h2, r2⟩ := trodAll_cons r1
  obtain ⟨rfl, rfl, rfl⟩ := trodAll_nil r2
  obtain rfl : args = #[v0, v1, v2] := by cases args; simp_all
  obtain ⟨rfl, rfl⟩ := trodVars_none hV
  obtain ⟨a0, rfl, rfl, rfl, w0⟩ := open_int Try.underlying3 (hval 0 3 v0 rfl rfl) h0
  have b0 := i64_of_wf w0
  obtain ⟨a1, len1, cap1, rfl⟩ := okWide_slice Try.underlying45 (hval 1 45 v1 rfl rfl)
  have k1 := h1
  have lt1 : ∀ x ∈ p1, x.block < W.heap.size := by obtain ⟨m, hm⟩ := k1; exact DataW.trod_lt m _ _ _ hm
  obtain ⟨z1, H1, U1, M1⟩ := hasK_of_trod Try.underlying45 Try.underlying80 (by kernel_rfl) (by kernel_rfl) Try.underlying3 Try.underlying3 Try.underlying3 h1
  obtain ⟨a2, rfl, rfl, rfl, w2⟩ := open_int Try.underlying3 (hval 2 3 v2 rfl rfl) h2
  have b2 := i64_of_wf w2
  clear hA0 hval0
  refine (walk_FnExactClaimsAfter b0 H1 U1 M1 b2).mono fun e W' ⟨he, bel⟩ => ?_
  subst he
  exact ⟨_, rfl, _, _, _, [], _, [], hW', trodAll_mk1 (shut_bool Try.underlying4 _), (trodAll_cons_mk (shut_int Try.underlying3 w0) (trodAll_cons_mk (Below.trod (by kernel_rfl) (by kernel_rfl) (of_decide_eq_true (by kernel_rfl)) k1 bel lt1) (trodAll_cons_mk (shut_int Try.underlying3 w2) trodAll_mk0))), rfl, bel.frame _, fun h => by cases h⟩

theorem fnExactClaimsAfter_holds : Rows.FnExactClaimsAfterSaid :=
  OpenClaim.holds_of_wide 17 Try.f17 rfl rfl rfl rfl rfl rfl rfl ⟨rfl, rfl, rfl, rfl, rfl⟩ rfl rfl rfl rfl rfl (by kernel_rfl) Try.func17
    (by unfold joinedFacts; with_reducible refine Bool.and_eq_true_iff.2 ⟨?_, (by as_aux_lemma => kernel_rfl)⟩; with_reducible refine Bool.and_eq_true_iff.2 ⟨?_, (by as_aux_lemma => kernel_rfl)⟩; with_reducible refine Bool.and_eq_true_iff.2 ⟨?_, (by as_aux_lemma => kernel_rfl)⟩; with_reducible refine Bool.and_eq_true_iff.2 ⟨?_, (by as_aux_lemma => kernel_rfl)⟩; with_reducible refine Bool.and_eq_true_iff.2 ⟨?_, (by with_unfolding_all exact shutMake)⟩; with_reducible refine Bool.and_eq_true_iff.2 ⟨?_, (by with_unfolding_all exact shutLifts)⟩; with_reducible refine Bool.and_eq_true_iff.2 ⟨?_, shutEnter⟩; (repeat (with_reducible refine Bool.and_eq_true_iff.2 ⟨?_, (by as_aux_lemma => kernel_rfl)⟩)); as_aux_lemma => kernel_rfl)
    (of_decide_eq_true (by kernel_rfl)) (by unfold Func.isWrapper; first | (rw [if_pos (by decide +kernel)]; kernel_rfl) | (rw [if_neg (by decide +kernel)]; exact ⟨rfl, rfl⟩))
    (fun os started H enc _ => lifted_FnExactClaimsAfter os started H enc)
end Go.Proofs.Ytkmdpmhaljieaaa
