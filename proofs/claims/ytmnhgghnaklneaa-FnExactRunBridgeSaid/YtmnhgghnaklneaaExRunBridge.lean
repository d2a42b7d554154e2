/-
  FnExactRunBridge: for every argument the exact law of RunBridge returns true and writes nothing that was there. No condition.
-/
import Derived.Test.YtmnhgghnaklneaaImp6
import Derived.Test.YtmnhgghnaklneaaHopArg
import Derived.Test.YtmnhgghnaklneaaListLawsI
namespace Go.Proofs.Ytmnhgghnaklneaa
open Go.RowKit Go.ChangeShapes Go.WideShapes Go.ChangeAt

set_option maxHeartbeats 16000000 in
set_option maxRecDepth 100000 in
theorem walk_FnExactRunBridge {A1 : Option Addr} {n1 c1 : Nat} {a0 : Int} {hs : List Hop3} {w : World} (hb0 : -9223372036854775808 ≤ a0 ∧ a0 ≤ 9223372036854775807) (h1 : HasH w A1 n1 hs) (hu1 : I64H hs) (hc1 : n1 ≤ c1 ∧ c1 ≤ maxLen) :
    Calls Try.prog 14 #[.int .i64 a0, .slice A1 n1 c1] w fun e w' => e = .returned (.bool true) ∧ Below w.heap.size w w' := by
  have hmx : n1 ≤ 9223372036854775807 := by have h1 := hc1.1; have h2 := hc1.2; unfold maxLen at h2; omega
  have l1 := runT_le a0 hs
  obtain ⟨l2, l3, l4⟩ := runO_le a0 hs
  have L3 := Lib.hid l3
  clear l3
  have l5 : sumLenI (runO a0 hs) ≤ 400 := l4
  obtain ⟨dd, hdd⟩ : ∃ dd, runB a0 hs = dd := ⟨_, rfl⟩
  have HDD := Lib.hid hdd
  clear hdd
  have SZ := Lib.hid (szHopS_any (A := A1) (n := n1) (c := c1) (w := w) (L := 1048576) rfl hmx)
  by_cases hn1 : n1 ≤ 1048576
  rotate_left
  · rw [if_neg hn1] at SZ
    go_enter Try.func14, Try.ntmps14
    go_wp2_with (fail)
    refine SZ.out.mono ?_
    rintro e w' ⟨rfl, rfl⟩
    go_wp2
    go_ret
    exact ⟨rfl, Below.refl _ _⟩
  rw [if_pos hn1] at SZ
  have hzB : decide ((1048576 : Int) - (n1 : Int) < 0) = false := by simp; omega
  go_enter Try.func14, Try.ntmps14
  go_wp2_with (fail)
  refine (SZ.out).mono ?_
  rintro e w' ⟨rfl, rfl⟩
  go_wp2_with (fail)
  refine (toHopS_any (h1.bel (Below.refl _ _)) (by omega)).mono ?_
  rintro e w1 ⟨AP, cP, rfl, P, B1⟩
  have S1 : w.heap.size ≤ w1.heap.size := B1.size
  have C1 := B1
  have bP : ∀ a, AP = some a → w.heap.size ≤ a.block ∧ a.block < w1.heap.size := fun a ha => by subst ha; exact World.ownsRow.lt P a.block rfl
  go_wp2_with (fail)
  refine (specRunBridge_w P.has (by omega)).mono ?_
  rintro e w2 hh
  unfold RunRes at hh
  obtain ⟨AW, nW, cW, DW, mW, dW, vW, rfl, W, Wo, offW, B2⟩ := hh
  have S2 : w1.heap.size ≤ w2.heap.size := B2.size
  have C2 := bel_trans C1 B2
  have P_2 := P.bel B2
  rw [HDD.out]
  have bW : ∀ a : Addr, AW = some a → w1.heap.size ≤ a.block ∧ a.block < w2.heap.size := fun a ha => by cases ha; exact W.block
  have bWo : ∀ i, InL DW vW i → w1.heap.size ≤ i ∧ i < w2.heap.size := fun i hi => Wo.bounds hi
  have hnW : nW ≤ 15 := by have q1 := W.has.len; omega
  have hmW : mW ≤ 60 := by have q1 := Wo.has.len; omega
  go_wp2_with (fail)
  refine (toHopS_any (h1.bel C2) (by omega)).mono ?_
  rintro e w3 ⟨AX, cX, rfl, X, B3⟩
  have S3 : w2.heap.size ≤ w3.heap.size := B3.size
  have C3 := bel_trans C2 B3
  have W_3 := W.bel B3
  have Wo_3 := Wo.bel B3
  have bX : ∀ a, AX = some a → w2.heap.size ≤ a.block ∧ a.block < w3.heap.size := fun a ha => by subst ha; exact World.ownsRow.lt X a.block rfl
  go_wp2_with (fail)
  refine (implRunBridge_any X.has hu1 (by omega) hb0).mono ?_
  rintro e w4 hh
  unfold RunRes at hh
  obtain ⟨AG, nG, cG, DG, mG, dG, vG, rfl, G, Go, offG, B4⟩ := hh
  have S4 : w3.heap.size ≤ w4.heap.size := B4.size
  have C4 := bel_trans C3 B4
  have W_4 := W_3.bel B4
  have Wo_4 := Wo_3.bel B4
  have X_4 := X.bel B4
  rw [HDD.out]
  have bG : ∀ a : Addr, AG = some a → w3.heap.size ≤ a.block ∧ a.block < w4.heap.size := fun a ha => by cases ha; exact G.block
  have bGo : ∀ i, InL DG vG i → w3.heap.size ≤ i ∧ i < w4.heap.size := fun i hi => Go.bounds hi
  have hnG : nG ≤ 15 := by have q1 := G.has.len; omega
  have hmG : mG ≤ 60 := by have q1 := Go.has.len; omega
  go_wp2_with (fail)
  refine (eqIntS_b G.has W_4.has (by omega)).mono ?_
  rintro e w5 ⟨rfl, B5⟩
  have S5 : w4.heap.size ≤ w5.heap.size := B5.size
  have C5 := bel_trans C4 B5
  have W_5 := W_4.bel B5
  have Wo_5 := Wo_4.bel B5
  have X_5 := X_4.bel B5
  have G_5 := G.bel B5
  have Go_5 := Go.bel B5
  go_wp2_with (fail)
  refine (eqIntSS_b Go_5.has Wo_5.has (by omega) L3.out).mono ?_
  rintro e w6 ⟨rfl, B6⟩
  have S6 : w5.heap.size ≤ w6.heap.size := B6.size
  have C6 := bel_trans C5 B6
  have W_6 := W_5.bel B6
  have Wo_6 := Wo_5.bel B6
  have X_6 := X_5.bel B6
  have G_6 := G_5.bel B6
  have Go_6 := Go_5.bel B6
  go_wp2_with (fail)
  refine (toHopS_any (h1.bel C6) (by omega)).mono ?_
  rintro e w7 ⟨AY, cY, rfl, Y, B7⟩
  have S7 : w6.heap.size ≤ w7.heap.size := B7.size
  have C7 := bel_trans C6 B7
  have W_7 := W_6.bel B7
  have Wo_7 := Wo_6.bel B7
  have X_7 := X_6.bel B7
  have G_7 := G_6.bel B7
  have Go_7 := Go_6.bel B7
  have bY : ∀ a, AY = some a → w6.heap.size ≤ a.block ∧ a.block < w7.heap.size := fun a ha => by subst ha; exact World.ownsRow.lt Y a.block rfl
  go_wp2_with (fail)
  refine (eqHopS_same X_7.has Y.has (by omega)).mono ?_
  rintro e w8 ⟨rfl, B8⟩
  have S8 : w7.heap.size ≤ w8.heap.size := B8.size
  have C8 := bel_trans C7 B8
  have W_8 := W_7.bel B8
  have Wo_8 := Wo_7.bel B8
  have X_8 := X_7.bel B8
  have G_8 := G_7.bel B8
  have Go_8 := Go_7.bel B8
  have Y_8 := Y.bel B8
  go_wp2_with (fail)
  refine (markHopS_any X_8 (K := 1) (by omega) (by omega)).mono ?_
  rintro e w9 ⟨rfl, M9⟩
  have S9 : w8.heap.size ≤ w9.heap.size := M9.size
  have C9 := bel_grown C8 M9 (fun ad ha => by have := bX ad ha; omega)
  have W_9 := W_8.keep M9 (fun a ha b hb => by have h1 := bW a ha; have h2 := bX b hb; omega)
  have Wo_9 := Wo_8.keep M9 (fun i hi a ha => by have h1 := bWo i hi; have h2 := bX a ha; omega)
  have G_9 := G_8.keep M9 (fun a ha b hb => by have h1 := bG a ha; have h2 := bX b hb; omega)
  have Go_9 := Go_8.keep M9 (fun i hi a ha => by have h1 := bGo i hi; have h2 := bX a ha; omega)
  go_wp2_with (fail)
  refine (eqIntS_b G_9.has W_9.has (by omega)).mono ?_
  rintro e w10 ⟨rfl, B10⟩
  have S10 : w9.heap.size ≤ w10.heap.size := B10.size
  have C10 := bel_trans C9 B10
  have W_10 := W_9.bel B10
  have Wo_10 := Wo_9.bel B10
  have G_10 := G_9.bel B10
  have Go_10 := Go_9.bel B10
  go_wp2_with (fail)
  refine (eqIntSS_b Go_10.has Wo_10.has (by omega) L3.out).mono ?_
  rintro e w11 ⟨rfl, B11⟩
  have S11 : w10.heap.size ≤ w11.heap.size := B11.size
  have C11 := bel_trans C10 B11
  have W_11 := W_10.bel B11
  have Wo_11 := Wo_10.bel B11
  have G_11 := G_10.bel B11
  have Go_11 := Go_10.bel B11
  go_wp2_with (fail)
  refine (markIntS_any G_11 (K := 1) (by omega) (by omega)).mono ?_
  rintro e w12 ⟨rfl, Gm, M12⟩
  have S12 : w11.heap.size ≤ w12.heap.size := M12.size
  have C12 := bel_grown C11 M12 (fun ad ha => by have := bG ad ha; omega)
  have W_12 := W_11.keep M12 (fun a ha b hb => by have h1 := bW a ha; have h2 := bG b hb; omega)
  have Wo_12 := Wo_11.keep M12 (fun i hi a ha => by have h1 := bWo i hi; have h2 := bG a ha; omega)
  have Go_12 := Go_11.keep M12 (fun i hi a ha => hi.elim (fun hi => own_two Go G (by decide) hi a ha) (fun ⟨v, hv, hi⟩ e => offG v hv i hi a ha e.symm))
  go_wp2_with (fail)
  refine (markIntSS_any Go_12 (K := 1 + nG) (by omega) L3.out (by omega)).mono ?_
  rintro e w13 ⟨rfl, Gom, T13⟩
  have S13 : w12.heap.size ≤ w13.heap.size := T13.2.2.2.1
  have C13 : Below w.heap.size w w13 := C12.trans (T13.below (by omega) (fun v hv b hb => by have := bGo b (.inr ⟨v, hv, hb⟩); omega))
  have W_13 := W_12.heapEq (w' := w13) (fun ad ha => T13.2.2.2.2 _ (by have := bW ad ha; omega) (fun v hv hb => by have h1 := bW ad ha; have h2 := bGo _ (.inr ⟨v, hv, hb⟩); omega))
  have Wo_13 := Wo_12.heapEq (w' := w13) (fun i hi => T13.2.2.2.2 _ (by have := bWo i hi; omega) (fun v hv hb => by have h1 := bWo i hi; have h2 := bGo i (.inr ⟨v, hv, hb⟩); omega))
  have G_13 := Gm.heapEq (w' := w13) (fun ad ha => T13.2.2.2.2 _ (by have := bG ad ha; omega) (fun v hv hb => offG v hv _ hb ad ha rfl))
  go_wp2_with (fail)
  refine (heldIntS_any (K := 1) G_13.has (by omega) (by omega)).mono ?_
  rintro e w' ⟨rfl, rfl⟩
  go_wp2_with (fail)
  refine (heldIntSS_any (K := 1 + nG) Gom.has (by omega) L3.out (by omega)).mono ?_
  rintro e w' ⟨rfl, rfl⟩
  go_wp2_with (fail)
  refine (toHopS_any (h1.bel C13) (by omega)).mono ?_
  rintro e w14 ⟨AZ, cZ, rfl, Z, B14⟩
  have S14 : w13.heap.size ≤ w14.heap.size := B14.size
  have C14 := bel_trans C13 B14
  have W_14 := W_13.bel B14
  have Wo_14 := Wo_13.bel B14
  have G_14 := G_13.bel B14
  have Go_14 := Gom.bel B14
  have bZ : ∀ a, AZ = some a → w13.heap.size ≤ a.block ∧ a.block < w14.heap.size := fun a ha => by subst ha; exact World.ownsRow.lt Z a.block rfl
  go_wp2_with (fail)
  refine (implRunBridge_any Z.has hu1 (by omega) hb0).mono ?_
  rintro e w15 hh
  unfold RunRes at hh
  obtain ⟨AH, nH, cH, DH, mH, dH, vH, rfl, H, Ho, offH, B15⟩ := hh
  have S15 : w14.heap.size ≤ w15.heap.size := B15.size
  have C15 := bel_trans C14 B15
  have W_15 := W_14.bel B15
  have Wo_15 := Wo_14.bel B15
  have G_15 := G_14.bel B15
  have Go_15 := Go_14.bel B15
  have Z_15 := Z.bel B15
  rw [HDD.out]
  have bH : ∀ a : Addr, AH = some a → w14.heap.size ≤ a.block ∧ a.block < w15.heap.size := fun a ha => by cases ha; exact H.block
  have bHo : ∀ i, InL DH vH i → w14.heap.size ≤ i ∧ i < w15.heap.size := fun i hi => Ho.bounds hi
  have hnH : nH ≤ 15 := by have q1 := H.has.len; omega
  have hmH : mH ≤ 60 := by have q1 := Ho.has.len; omega
  go_wp2_with (fail)
  refine (eqIntS_b H.has W_15.has (by omega)).mono ?_
  rintro e w16 ⟨rfl, B16⟩
  have S16 : w15.heap.size ≤ w16.heap.size := B16.size
  have C16 := bel_trans C15 B16
  have W_16 := W_15.bel B16
  have Wo_16 := Wo_15.bel B16
  have G_16 := G_15.bel B16
  have Go_16 := Go_15.bel B16
  have H_16 := H.bel B16
  have Ho_16 := Ho.bel B16
  go_wp2_with (fail)
  refine (eqIntSS_b Ho_16.has Wo_16.has (by omega) L3.out).mono ?_
  rintro e w17 ⟨rfl, B17⟩
  have S17 : w16.heap.size ≤ w17.heap.size := B17.size
  have C17 := bel_trans C16 B17
  have W_17 := W_16.bel B17
  have Wo_17 := Wo_16.bel B17
  have G_17 := G_16.bel B17
  have Go_17 := Go_16.bel B17
  have H_17 := H_16.bel B17
  have Ho_17 := Ho_16.bel B17
  go_wp2_with (fail)
  refine (heldIntS_any (K := 1) G_17.has (by omega) (by omega)).mono ?_
  rintro e w' ⟨rfl, rfl⟩
  go_wp2_with (fail)
  refine (heldIntSS_any (K := 1 + nG) Go_17.has (by omega) L3.out (by omega)).mono ?_
  rintro e w' ⟨rfl, rfl⟩
  go_wp2
  go_ret
  exact ⟨rfl, C17⟩
set_option maxRecDepth 100000 in
theorem lifted_FnExactRunBridge (os : Os) (started : os.Started) (H : Type) (enc : TypeId × Value → H) :
    ReturnsInHanded {} Try.checked os 14 .any (Rows.fnExactRunBridgeSpec.pre6 enc Try.prog Try.f14 Rows.fnExactRunBridgeRow.domain false) (Rows.fnExactRunBridgeSpec.post enc Try.prog Try.f14 false true false false) := by
  refine returnsInHanded_of_change (C := Try.checked) (by kernel_rfl) started (by kernel_rfl) Try.func14
    (ChangeSpec.witness6 (enc := enc) (C := Try.checked) false ⟨#[], #[.int .i64 0, .slice none 0 0], []⟩ 8 (by kernel_rfl) (by kernel_rfl) (by kernel_rfl) (by kernel_rfl)) ?_
  intro W base args ds gs before hval0 hW hcnd _
  have hval : ∀ (j : Nat) t v, Try.f14.params[j]? = some t → args[j]? = some v → Value.okWide Try.prog W .any base t v := hval0
  have hW' := hW
  obtain ⟨p, q, hA0, hV, rfl, hfz, hnd⟩ := hW
  have hA : DataW.TrodAll enc Try.prog W 0 (fun _ => true) true Try.f14.params.toList args.toList ds p := hA0
  rw [Try.params14] at hA hval
  obtain ⟨v0, vs0, d0, ds0, p0, q0, hargs, rfl, rfl, h0, r0⟩ := trodAll_cons hA
  obtain ⟨v1, vs1, d1, ds1, p1, q1, rfl, rfl, rfl, h1, r1⟩ := trodAll_cons r0
  obtain ⟨rfl, rfl, rfl⟩ := trodAll_nil r1
  obtain rfl : args = #[v0, v1] := by cases args; simp_all
  obtain ⟨rfl, rfl⟩ := trodVars_none hV
  obtain ⟨a0, rfl, rfl, rfl, w0⟩ := open_int Try.underlying3 (hval 0 3 v0 rfl rfl) h0
  have b0 := i64_of_wf w0
  obtain ⟨a1, len1, cap1, rfl⟩ := okWide_slice Try.underlying57 (hval 1 57 v1 rfl rfl)
  have k1 := h1
  have lt1 : ∀ x ∈ p1, x.block < W.heap.size := by obtain ⟨m, hm⟩ := k1; exact DataW.trod_lt m _ _ _ hm
  obtain ⟨z1, H1, U1, M1⟩ := hasH_of_trod Try.underlying57 Try.underlying54 (by kernel_rfl) (by kernel_rfl) Try.underlying3 Try.underlying3 Try.underlying3 h1
  clear hA0 hval0
  refine (walk_FnExactRunBridge b0 H1 U1 M1).mono fun e W' ⟨he, bel⟩ => ?_
  subst he
  exact ⟨_, rfl, _, _, _, [], _, [], hW', trodAll_mk1 (shut_bool Try.underlying4 _), (trodAll_cons_mk (shut_int Try.underlying3 w0) (trodAll_cons_mk (Below.trod (by kernel_rfl) (by kernel_rfl) (of_decide_eq_true (by kernel_rfl)) k1 bel lt1) trodAll_mk0)), rfl, bel.frame _, fun h => by cases h⟩

theorem fnExactRunBridge_holds : Rows.FnExactRunBridgeSaid :=
  OpenClaim.holds_of_wide 14 Try.f14 rfl rfl rfl rfl rfl rfl rfl ⟨rfl, rfl, rfl, rfl, rfl⟩ rfl rfl rfl rfl rfl (by kernel_rfl) Try.func14 (by kernel_rfl)
    (of_decide_eq_true (by kernel_rfl)) (by unfold Func.isWrapper; first | (rw [if_pos (by decide +kernel)]; kernel_rfl) | (rw [if_neg (by decide +kernel)]; exact ⟨rfl, rfl⟩))
    (fun os started H enc _ => lifted_FnExactRunBridge os started H enc)
end Go.Proofs.Ytmnhgghnaklneaa
