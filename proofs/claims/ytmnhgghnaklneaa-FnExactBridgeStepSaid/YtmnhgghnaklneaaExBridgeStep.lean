/-
  FnExactBridgeStep: for every argument the exact law of BridgeStep returns true and writes nothing that was there. No condition.
-/
import Derived.Test.YtmnhgghnaklneaaImp6
import Derived.Test.YtmnhgghnaklneaaHopArg
import Derived.Test.YtmnhgghnaklneaaListLawsI
import Derived.Deep.Cut
import Derived.Deep.CutRange
namespace Go.Proofs.Ytmnhgghnaklneaa
open Go.RowKit Go.ChangeShapes Go.WideShapes Go.ChangeAt

/-- What stands in the slots behind a call of BridgeStep. -/
def StepCut (w w' : World) (va vb vc : Value) (dd : Bool) (ts : List Int) (ports : Int) (h : Hop3) : Prop :=
  ∃ A1 n1 c1 A2 n2 c2, va = .slice A1 n1 c1 ∧ vb = .slice A2 n2 c2 ∧ vc = .bool dd ∧ Own w' w.heap.size 3 A1 n1 c1 (ints .i64 (stepL ts ports h)) ∧ Own w' w.heap.size 3 A2 n2 c2 (ints .i64 (outsL ts ports h)) ∧ (∀ a1 a2, A1 = some a1 → A2 = some a2 → a1.block ≠ a2.block) ∧ Below w.heap.size w w'
set_option maxHeartbeats 16000000 in
set_option maxRecDepth 100000 in
theorem walk_FnExactBridgeStep {A0 : Option Addr} {n0 c0 : Nat} {zs0 : List Int} {a1 f t q : Int} {w : World} (h0 : Has w A0 n0 (ints .i64 zs0)) (hwf0 : ∀ z ∈ zs0, (Lit.int .i64 z).wf = true) (_ : n0 ≤ c0 ∧ c0 ≤ maxLen) (hb1 : -9223372036854775808 ≤ a1 ∧ a1 ≤ 9223372036854775807) (hb2 : I64H [(f, t, q)]) :
    Calls Try.prog 13 #[.slice A0 n0 c0, .int .i64 a1, .agg #[.int .i64 f, .int .i64 t, .int .i64 q]] w fun e w' => e = .returned (.bool true) ∧ Below w.heap.size w w' := by
  have hu0 : I64s zs0 := fun z hz => i64_of_wf (hwf0 z hz)
  clear hwf0
  have BX : Below w.heap.size w (w.alloc (.cells #[.int .i64 f, .int .i64 t, .int .i64 q] 54)) := (Below.refl _ _).alloc (Nat.le_refl _) _
  by_cases hn0 : n0 ≤ 1048576
  rotate_left
  · go_enter Try.func13, Try.ntmps13
    go_wp2
    go_ret
    exact ⟨rfl, BX⟩
  have l1 := stepL_le zs0 a1 (f, t, q)
  have l2 := outsL_le zs0 a1 (f, t, q)
  obtain ⟨dd, hdd⟩ : ∃ dd, decide (stepOk zs0 a1 (f, t, q)) = dd := ⟨_, rfl⟩
  have HDD := Lib.hid hdd
  clear hdd
  have hX := heap_alloc_new w (.cells #[.int .i64 f, .int .i64 t, .int .i64 q] 54)
  have hlt : w.heap.size < (w.alloc (.cells #[.int .i64 f, .int .i64 t, .int .i64 q] 54)).heap.size := by simp
  go_enter Try.func13, Try.ntmps13
  go_upto_region 3 with fail
  obtain ⟨wa, hwa⟩ : ∃ wa, wa = w.alloc (.cells #[.int .i64 f, .int .i64 t, .int .i64 q] 54) := ⟨_, rfl⟩
  rw [← hwa] at BX hX hlt ⊢
  have ha0 := h0.bel BX
  clear hwa
  generalize hBB : w.heap.size = BB at *
  obtain ⟨x0a, x1a, x2a⟩ := cells3 (hX)
  have C0 : Below wa.heap.size wa wa := Below.refl _ _
  have DB3 : Below wa.heap.size wa wa.drew := (Below.refl _ _).drew
  go_cut [7, 8, 9] from 23 to 32 (fun va vb vc wx => StepCut wa wx va vb vc dd zs0 a1 (f, t, q))
  case first =>
    go_region_with (first | (go_at_call 40; refine (toIntS_any ((ha0.bel C0).bel DB3) (by omega)).mono ?_; rintro e u1 ⟨gp, rfl, P, B1⟩; have E1 := bel_trans DB3 B1; have x4 := cells3 (((E1.block BB (by have := C0.size; omega)).trans ((C0 : Below wa.heap.size wa wa).block BB hlt)).trans hX); have x40 := x4.1; have x41 := x4.2.1; have x42 := x4.2.2) | (go_at_call 41; refine (toHop_any f t q _).mono ?_; rintro e u2 ⟨rfl, B2⟩; have E2 := bel_trans E1 B2; have PP := P.bel B2) | (go_at_call 26; refine (specBridgeStep_w PP.has (by omega)).mono ?_; rintro e u3 hh; unfold StepR at hh; obtain ⟨AA, na, ca, DD, nd, cd, rfl, OA, OD, apA, B3⟩ := hh; have E3 := bel_trans E2 B3))
    all_goals
      go_wp2_with fail
      go_meet
      rw [HDD.out]
      exact ⟨_, _, _, _, _, _, rfl, rfl, rfl, OA.mono (by have := E2.size; omega), OD.mono (by have := E2.size; omega), apA, E3⟩
  case rest =>
  obtain ⟨AW, nW, cW, DW, mW, dW, rfl, rfl, rfl, W, Wo, apW, B1⟩ := hcut
  obtain ⟨w1, rfl⟩ : ∃ x, x = wc := ⟨_, rfl⟩
  have S1 : wa.heap.size ≤ w1.heap.size := B1.size
  have C1 := B1
  have bW : ∀ a : Addr, AW = some a → wa.heap.size ≤ a.block ∧ a.block < w1.heap.size := fun a ha => by cases ha; exact W.block
  have bWo : ∀ a : Addr, DW = some a → wa.heap.size ≤ a.block ∧ a.block < w1.heap.size := fun a ha => by cases ha; exact Wo.block
  have hnW : nW ≤ 15 := by have q1 := W.has.len; omega
  have hmW : mW ≤ 6 := by have q1 := Wo.has.len; omega
  go_wp2_with (fail)
  refine (toIntS_any (ha0.bel C1) (by omega)).mono ?_
  rintro e w2 ⟨gX, rfl, X, B2⟩
  have S2 : w1.heap.size ≤ w2.heap.size := B2.size
  have C2 := bel_trans C1 B2
  have W_2 := W.bel B2
  have Wo_2 := Wo.bel B2
  have bX : ∀ a : Addr, (some (⟨gX, 0, none⟩ : Addr)) = some a → w1.heap.size ≤ a.block ∧ a.block < w2.heap.size := fun a ha => by cases ha; exact X.block
  obtain ⟨x02, x12, x22⟩ := cells3 ((C2.block BB hlt).trans hX)
  go_wp2_with (fail)
  refine (toHop_any f t q _).mono ?_
  rintro e w3 ⟨rfl, B3⟩
  have S3 : w2.heap.size ≤ w3.heap.size := B3.size
  have C3 := bel_trans C2 B3
  have W_3 := W_2.bel B3
  have Wo_3 := Wo_2.bel B3
  have X_3 := X.bel B3
  go_wp2_with (fail)
  refine (implBridgeStep_any X_3.has hu0 (by omega) hb1 hb2).mono ?_
  rintro e w4 hh
  unfold StepR at hh
  obtain ⟨AG, nG, cG, DG, mG, dG, rfl, G, Go, apG, B4⟩ := hh
  have S4 : w3.heap.size ≤ w4.heap.size := B4.size
  have C4 := bel_trans C3 B4
  have W_4 := W_3.bel B4
  have Wo_4 := Wo_3.bel B4
  have X_4 := X_3.bel B4
  rw [HDD.out]
  have bG : ∀ a : Addr, AG = some a → w3.heap.size ≤ a.block ∧ a.block < w4.heap.size := fun a ha => by cases ha; exact G.block
  have bGo : ∀ a : Addr, DG = some a → w3.heap.size ≤ a.block ∧ a.block < w4.heap.size := fun a ha => by cases ha; exact Go.block
  have hnG : nG ≤ 15 := by have q1 := G.has.len; omega
  have hmG : mG ≤ 6 := by have q1 := Go.has.len; omega
  go_wp2_with (fail)
  refine (eqIntS_b G.has W_4.has (by omega)).mono ?_
  rintro e w5 ⟨rfl, B5⟩
  have S5 : w4.heap.size ≤ w5.heap.size := B5.size
  have C5 := bel_trans C4 B5
  have W_5 := W_4.bel B5
  have Wo_5 := Wo_4.bel B5
  have X_5 := X_4.bel B5
  have G_5 := G.bel B5
  have Go_5 := Go.bel B5
  go_wp2_with (fail)
  refine (eqIntS_b Go_5.has Wo_5.has (by omega)).mono ?_
  rintro e w6 ⟨rfl, B6⟩
  have S6 : w5.heap.size ≤ w6.heap.size := B6.size
  have C6 := bel_trans C5 B6
  have W_6 := W_5.bel B6
  have Wo_6 := Wo_5.bel B6
  have X_6 := X_5.bel B6
  have G_6 := G_5.bel B6
  have Go_6 := Go_5.bel B6
  go_wp2_with (fail)
  refine (toIntS_any (ha0.bel C6) (by omega)).mono ?_
  rintro e w7 ⟨gY, rfl, Y, B7⟩
  have S7 : w6.heap.size ≤ w7.heap.size := B7.size
  have C7 := bel_trans C6 B7
  have W_7 := W_6.bel B7
  have Wo_7 := Wo_6.bel B7
  have X_7 := X_6.bel B7
  have G_7 := G_6.bel B7
  have Go_7 := Go_6.bel B7
  have bY : ∀ a : Addr, (some (⟨gY, 0, none⟩ : Addr)) = some a → w6.heap.size ≤ a.block ∧ a.block < w7.heap.size := fun a ha => by cases ha; exact Y.block
  go_wp2_with (fail)
  refine (eqIntS_b X_7.has Y.has (by omega)).mono ?_
  rintro e w8 ⟨rfl, B8⟩
  have S8 : w7.heap.size ≤ w8.heap.size := B8.size
  have C8 := bel_trans C7 B8
  have W_8 := W_7.bel B8
  have Wo_8 := Wo_7.bel B8
  have X_8 := X_7.bel B8
  have G_8 := G_7.bel B8
  have Go_8 := Go_7.bel B8
  have Y_8 := Y.bel B8
  go_wp2_with (fail)
  refine (markIntS_any X_8 (K := 1) (by omega) (by omega)).mono ?_
  rintro e w9 ⟨rfl, Xm, M9⟩
  have S9 : w8.heap.size ≤ w9.heap.size := M9.size
  have C9 := bel_grown C8 M9 (fun ad ha => by have := bX ad ha; omega)
  have W_9 := W_8.keep M9 (fun a ha b hb => by have h1 := bW a ha; have h2 := bX b hb; omega)
  have Wo_9 := Wo_8.keep M9 (fun a ha b hb => by have h1 := bWo a ha; have h2 := bX b hb; omega)
  have G_9 := G_8.keep M9 (fun a ha b hb => by have h1 := bG a ha; have h2 := bX b hb; omega)
  have Go_9 := Go_8.keep M9 (fun a ha b hb => by have h1 := bGo a ha; have h2 := bX b hb; omega)
  go_wp2_with (fail)
  refine (eqIntS_b G_9.has W_9.has (by omega)).mono ?_
  rintro e w10 ⟨rfl, B10⟩
  have S10 : w9.heap.size ≤ w10.heap.size := B10.size
  have C10 := bel_trans C9 B10
  have W_10 := W_9.bel B10
  have Wo_10 := Wo_9.bel B10
  have G_10 := G_9.bel B10
  have Go_10 := Go_9.bel B10
  go_wp2_with (fail)
  refine (eqIntS_b Go_10.has Wo_10.has (by omega)).mono ?_
  rintro e w11 ⟨rfl, B11⟩
  have S11 : w10.heap.size ≤ w11.heap.size := B11.size
  have C11 := bel_trans C10 B11
  have W_11 := W_10.bel B11
  have Wo_11 := Wo_10.bel B11
  have G_11 := G_10.bel B11
  have Go_11 := Go_10.bel B11
  go_wp2_with (fail)
  refine (markIntS_any G_11 (K := 1) (by omega) (by omega)).mono ?_
  rintro e w12 ⟨rfl, Gm, M12⟩
  have S12 : w11.heap.size ≤ w12.heap.size := M12.size
  have C12 := bel_grown C11 M12 (fun ad ha => by have := bG ad ha; omega)
  have W_12 := W_11.keep M12 (fun a ha b hb => by have h1 := bW a ha; have h2 := bG b hb; omega)
  have Wo_12 := Wo_11.keep M12 (fun a ha b hb => by have h1 := bWo a ha; have h2 := bG b hb; omega)
  have Go_12 := Go_11.keep M12 (fun a ha b hb => (apG b a hb ha).symm)
  go_wp2_with (fail)
  refine (markIntS_any Go_12 (K := 1 + nG) (by omega) (by omega)).mono ?_
  rintro e w13 ⟨rfl, Gom, M13⟩
  have S13 : w12.heap.size ≤ w13.heap.size := M13.size
  have C13 := bel_grown C12 M13 (fun ad ha => by have := bGo ad ha; omega)
  have W_13 := W_12.keep M13 (fun a ha b hb => by have h1 := bW a ha; have h2 := bGo b hb; omega)
  have Wo_13 := Wo_12.keep M13 (fun a ha b hb => by have h1 := bWo a ha; have h2 := bGo b hb; omega)
  have G_13 := Gm.keep M13 (fun a ha b hb => apG a b ha hb)
  go_wp2_with (fail)
  refine (heldIntS_any (K := 1) G_13.has (by omega) (by omega)).mono ?_
  rintro e w' ⟨rfl, rfl⟩
  go_wp2_with (fail)
  refine (heldIntS_any (K := 1 + nG) Gom.has (by omega) (by omega)).mono ?_
  rintro e w' ⟨rfl, rfl⟩
  obtain ⟨x0b13, x1b13, x2b13⟩ := cells3 ((C13.block BB hlt).trans hX)
  have DB26 : Below w13.heap.size w13 w13.drew := (Below.refl _ _).drew
  go_upto_region 26 with fail
  go_cut [17, 18, 19] from 105 to 114 (fun va vb vc wx => StepCut w13 wx va vb vc dd zs0 a1 (f, t, q))
  case first =>
    go_region_with (first | (go_at_call 40; refine (toIntS_any ((ha0.bel C13).bel DB26) (by omega)).mono ?_; rintro e u1 ⟨gp, rfl, P, B1⟩; have E1 := bel_trans DB26 B1; have x4 := cells3 (((E1.block BB (by have := C13.size; omega)).trans ((C13 : Below wa.heap.size wa w13).block BB hlt)).trans hX); have x40 := x4.1; have x41 := x4.2.1; have x42 := x4.2.2) | (go_at_call 41; refine (toHop_any f t q _).mono ?_; rintro e u2 ⟨rfl, B2⟩; have E2 := bel_trans E1 B2; have PP := P.bel B2) | (go_at_call 25; refine (implBridgeStep_any PP.has hu0 (by omega) hb1 hb2).mono ?_; rintro e u3 hh; unfold StepR at hh; obtain ⟨AA, na, ca, DD, nd, cd, rfl, OA, OD, apA, B3⟩ := hh; have E3 := bel_trans E2 B3))
    all_goals
      go_wp2_with fail
      go_meet
      rw [HDD.out]
      exact ⟨_, _, _, _, _, _, rfl, rfl, rfl, OA.mono (by have := E2.size; omega), OD.mono (by have := E2.size; omega), apA, E3⟩
  case rest =>
  obtain ⟨AH, nH, cH, DH, mH, dH, rfl, rfl, rfl, H, Ho, apH, B14⟩ := hcut
  obtain ⟨w14, rfl⟩ : ∃ x, x = wc := ⟨_, rfl⟩
  have S14 : w13.heap.size ≤ w14.heap.size := B14.size
  have C14 := bel_trans C13 B14
  have W_14 := W_13.bel B14
  have Wo_14 := Wo_13.bel B14
  have G_14 := G_13.bel B14
  have Go_14 := Gom.bel B14
  have bH : ∀ a : Addr, AH = some a → w13.heap.size ≤ a.block ∧ a.block < w14.heap.size := fun a ha => by cases ha; exact H.block
  have bHo : ∀ a : Addr, DH = some a → w13.heap.size ≤ a.block ∧ a.block < w14.heap.size := fun a ha => by cases ha; exact Ho.block
  have hnH : nH ≤ 15 := by have q1 := H.has.len; omega
  have hmH : mH ≤ 6 := by have q1 := Ho.has.len; omega
  go_wp2_with (fail)
  refine (eqIntS_b H.has W_14.has (by omega)).mono ?_
  rintro e w15 ⟨rfl, B15⟩
  have S15 : w14.heap.size ≤ w15.heap.size := B15.size
  have C15 := bel_trans C14 B15
  have W_15 := W_14.bel B15
  have Wo_15 := Wo_14.bel B15
  have G_15 := G_14.bel B15
  have Go_15 := Go_14.bel B15
  have H_15 := H.bel B15
  have Ho_15 := Ho.bel B15
  go_wp2_with (fail)
  refine (eqIntS_b Ho_15.has Wo_15.has (by omega)).mono ?_
  rintro e w16 ⟨rfl, B16⟩
  have S16 : w15.heap.size ≤ w16.heap.size := B16.size
  have C16 := bel_trans C15 B16
  have W_16 := W_15.bel B16
  have Wo_16 := Wo_15.bel B16
  have G_16 := G_15.bel B16
  have Go_16 := Go_15.bel B16
  have H_16 := H_15.bel B16
  have Ho_16 := Ho_15.bel B16
  go_wp2_with (fail)
  refine (heldIntS_any (K := 1) G_16.has (by omega) (by omega)).mono ?_
  rintro e w' ⟨rfl, rfl⟩
  go_wp2_with (fail)
  refine (heldIntS_any (K := 1 + nG) Go_16.has (by omega) (by omega)).mono ?_
  rintro e w' ⟨rfl, rfl⟩
  go_wp2
  go_ret
  exact ⟨rfl, hBB ▸ (BX.trans (C16.mono (by omega)))⟩
set_option maxRecDepth 100000 in
theorem lifted_FnExactBridgeStep (os : Os) (started : os.Started) (H : Type) (enc : TypeId × Value → H) :
    ReturnsInHanded {} Try.checked os 13 .any (Rows.fnExactBridgeStepSpec.pre6 enc Try.prog Try.f13 Rows.fnExactBridgeStepRow.domain false) (Rows.fnExactBridgeStepSpec.post enc Try.prog Try.f13 false true false false) := by
  refine returnsInHanded_of_change (C := Try.checked) (by kernel_rfl) started (by kernel_rfl) Try.func13
    (ChangeSpec.witness6 (enc := enc) (C := Try.checked) false ⟨#[], #[.slice none 0 0, .int .i64 0, .agg #[.int .i64 0, .int .i64 0, .int .i64 0]], []⟩ 8 (by kernel_rfl) (by kernel_rfl) (by kernel_rfl) (by kernel_rfl)) ?_
  intro W base args ds gs before hval0 hW hcnd _
  have hval : ∀ (j : Nat) t v, Try.f13.params[j]? = some t → args[j]? = some v → Value.okWide Try.prog W .any base t v := hval0
  have hW' := hW
  obtain ⟨p, q, hA0, hV, rfl, hfz, hnd⟩ := hW
  have hA : DataW.TrodAll enc Try.prog W 0 (fun _ => true) true Try.f13.params.toList args.toList ds p := hA0
  rw [Try.params13] at hA hval
  obtain ⟨v0, vs0, d0, ds0, p0, q0, hargs, rfl, rfl, h0, r0⟩ := trodAll_cons hA
  obtain ⟨v1, vs1, d1, ds1, p1, q1, rfl, rfl, rfl, h1, r1⟩ := trodAll_cons r0
  obtain ⟨v2, vs2, d2, ds2, p2, q2, rfl, rfl, rfl, h2, r2⟩ := trodAll_cons r1
  obtain ⟨rfl, rfl, rfl⟩ := trodAll_nil r2
  obtain rfl : args = #[v0, v1, v2] := by cases args; simp_all
  obtain ⟨rfl, rfl⟩ := trodVars_none hV
  obtain ⟨a0, len0, cap0, rfl⟩ := okWide_slice Try.underlying23 (hval 0 23 v0 rfl rfl)
  have k0 := h0
  have lt0 : ∀ x ∈ p0, x.block < W.heap.size := by obtain ⟨m, hm⟩ := k0; exact DataW.trod_lt m _ _ _ hm
  obtain ⟨z0, H0, U0, M0⟩ := has_of_trod (k := .i64) Try.underlying23 Try.underlying3 (by kernel_rfl) h0
  obtain ⟨a1, rfl, rfl, rfl, w1⟩ := open_int Try.underlying3 (hval 1 3 v1 rfl rfl) h1
  have b1 := i64_of_wf w1
  obtain ⟨x2, y2, s2, xd2, yd2, sd2, m2, rfl, rfl, rfl, xt2, yt2, st2⟩ := Go.Joins.open_agg3 Try.underlying54 (by kernel_rfl) (by kernel_rfl) (hval 2 54 v2 rfl rfl) h2
  obtain ⟨xi2, xe2, rfl, xw2⟩ := DataW.trod_int Try.underlying3 xt2
  injection xe2 with xe2 _
  subst xe2
  obtain ⟨yi2, ye2, rfl, yw2⟩ := DataW.trod_int Try.underlying3 yt2
  injection ye2 with ye2 _
  subst ye2
  obtain ⟨si2, se2, rfl, sw2⟩ := DataW.trod_int Try.underlying3 st2
  injection se2 with se2 _
  subst se2
  have hh2 : I64H [(xi2, yi2, si2)] := fun z hz => by rw [List.mem_singleton.1 hz]; exact ⟨i64_of_wf xw2, i64_of_wf yw2, i64_of_wf sw2⟩
  clear hA0 hval0
  refine (walk_FnExactBridgeStep H0 U0 M0 b1 hh2).mono fun e W' ⟨he, bel⟩ => ?_
  subst he
  exact ⟨_, rfl, _, _, _, [], _, [], hW', trodAll_mk1 (shut_bool Try.underlying4 _), (trodAll_cons_mk (Below.trod (by kernel_rfl) (by kernel_rfl) (of_decide_eq_true (by kernel_rfl)) k0 bel lt0) (trodAll_cons_mk (shut_int Try.underlying3 w1) (trodAll_cons_mk (Go.Joins.shut_agg3 Try.underlying54 (by kernel_rfl) (by kernel_rfl) ⟨1, trod_int_mk 0 Try.underlying3 xw2⟩ ⟨1, trod_int_mk 0 Try.underlying3 yw2⟩ ⟨1, trod_int_mk 0 Try.underlying3 sw2⟩) trodAll_mk0))), rfl, bel.frame _, fun h => by cases h⟩

theorem fnExactBridgeStep_holds : Rows.FnExactBridgeStepSaid :=
  OpenClaim.holds_of_wide 13 Try.f13 rfl rfl rfl rfl rfl rfl rfl ⟨rfl, rfl, rfl, rfl, rfl⟩ rfl rfl rfl rfl rfl (by kernel_rfl) Try.func13 (by kernel_rfl)
    (of_decide_eq_true (by kernel_rfl)) (by unfold Func.isWrapper; first | (rw [if_pos (by decide +kernel)]; kernel_rfl) | (rw [if_neg (by decide +kernel)]; exact ⟨rfl, rfl⟩))
    (fun os started H enc _ => lifted_FnExactBridgeStep os started H enc)
end Go.Proofs.Ytmnhgghnaklneaa
