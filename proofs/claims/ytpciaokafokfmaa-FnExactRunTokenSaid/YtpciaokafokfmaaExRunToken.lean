/-
  FnExactRunToken: for every argument the exact law of RunToken returns true and writes nothing that was there. No condition.
-/
import Derived.Test.YtpciaokafokfmaaImp9b
import Derived.Test.YtpciaokafokfmaaTalkB
import Derived.Test.YtpciaokafokfmaaTalkL
import Derived.Test.YtpciaokafokfmaaShut
namespace Go.Proofs.Ytpciaokafokfmaa
open Go.RowKit Go.ChangeShapes Go.WideShapes Go.ChangeAt

set_option maxHeartbeats 8000000 in
set_option maxRecDepth 100000 in
theorem walk_FnExactRunToken {A0 : Option Addr} {n0 c0 : Nat} {zs0 : List Int} {a1 : Int} {a2 : Int} {w : World} (h0 : Has w A0 n0 (ints .i64 zs0)) (_ : ∀ z ∈ zs0, (Lit.int .i64 z).wf = true) (_ : n0 ≤ c0 ∧ c0 ≤ maxLen) (_ : -9223372036854775808 ≤ a1 ∧ a1 ≤ 9223372036854775807) (_ : -9223372036854775808 ≤ a2 ∧ a2 ≤ 9223372036854775807) :
    Calls Try.prog 13 #[.slice A0 n0 c0, .int .i64 a1, .int .i64 a2] w fun e w' => e = .returned (.bool true) ∧ Below w.heap.size w w' := by
  by_cases hn0 : n0 ≤ 1048576
  rotate_left
  · go_enter Try.func13, Try.ntmps13
    go_wp2
    go_ret
    exact ⟨rfl, Below.refl _ _⟩
  obtain ⟨os, hos⟩ : ∃ os, tokO zs0 a1 a2 = os := ⟨_, rfl⟩
  have HOL := Lib.hid (show os.length ≤ 2000 by rw [← hos]; exact tokO_len zs0 a1 a2)
  obtain ⟨hh, hhh⟩ : ∃ hh : Int, ((0 : Nat) : Int) = hh := ⟨_, rfl⟩
  obtain ⟨ss, hss⟩ : ∃ ss : Int, ((tokO zs0 a1 a2).length : Int) = ss := ⟨_, rfl⟩
  obtain ⟨dd, hdd⟩ : ∃ dd, tokD zs0 a1 a2 = dd := ⟨_, rfl⟩
  obtain ⟨ok, hok⟩ : ∃ ok, tokOk zs0 a1 a2 = ok := ⟨_, rfl⟩
  have SP : ∀ {A : Option Addr} {n c : Nat} {W : World}, Has W A n (ints .i64 zs0) → n ≤ 16777216 → Hid (Calls Try.prog 28 #[.slice A n c, .int .i64 a1, .int .i64 a2] W fun e w' => ∃ A' n' c', e = .returned (.tuple #[.agg #[.slice A' n' c', .int .i64 hh, .int .i64 ss, .bool dd], .bool ok]) ∧ Own w' W.heap.size 3 A' n' c' (ints .i64 os) ∧ Below W.heap.size W w') := fun h hn => by rw [← hhh, ← hss, ← hdd, ← hok, ← hos]; exact specRunToken_w h hn
  have IM : ∀ {A : Option Addr} {n c : Nat} {W : World}, Has W A n (ints .i64 zs0) → n ≤ 16777216 → Hid (Calls Try.prog 27 #[.slice A n c, .int .i64 a1, .int .i64 a2] W fun e w' => ∃ A' n' c', e = .returned (.tuple #[.agg #[.slice A' n' c', .int .i64 hh, .int .i64 ss, .bool dd], .bool ok]) ∧ Own w' W.heap.size 3 A' n' c' (ints .i64 os) ∧ Below W.heap.size W w') := fun h hn => by rw [← hhh, ← hss, ← hdd, ← hok, ← hos]; exact implRunToken_w h hn
  have HSP := Lib.hid (fun (A : Option Addr) (n c : Nat) (W : World) (h : Has W A n (ints .i64 zs0)) (hn : n ≤ 16777216) => @SP A n c W h hn)
  have HIM := Lib.hid (fun (A : Option Addr) (n c : Nat) (W : World) (h : Has W A n (ints .i64 zs0)) (hn : n ≤ 16777216) => @IM A n c W h hn)
  clear SP IM hos hhh hss hdd hok
  have B0 : Below w.heap.size w w := Below.refl _ _
  have hokB : (ok != ok) = false := by simp
  go_enter Try.func13, Try.ntmps13
  go_wp2_with (fail)
  refine (toIntS_any (h0.bel B0) (by omega)).mono ?_
  rintro e w1 ⟨gp0, rfl, O1, B1⟩
  have S1 : w.heap.size ≤ w1.heap.size := B1.size
  have C1 := bel_trans B0 B1
  go_wp2_with (fail)
  refine ((HSP.out _ _ _ _ O1.has (by omega) ).out).mono ?_
  rintro e w2 ⟨AW, nW, cW, rfl, O2, B2⟩
  have S2 : w1.heap.size ≤ w2.heap.size := B2.size
  have C2 := bel_trans C1 B2
  have p0_2 := O1.bel B2
  have hnW : nW ≤ 2000 := by have q1 := O2.has.len; have q2 := HOL.out; omega
  obtain ⟨w3, hw3⟩ : ∃ W, w2.alloc (.cells #[.slice AW nW cW, .int .i64 hh, .int .i64 ss, .bool dd] 27) = W := ⟨_, rfl⟩
  have B3 : Below w2.heap.size w2 w3 := hw3 ▸ below_alloc9 w2 _
  have KW : RunRow w3 w2.heap.size AW nW cW hh ss dd := hw3 ▸ runRow_alloc w2 AW nW cW hh ss dd
  have S3 : w2.heap.size ≤ w3.heap.size := B3.size
  have C3 := bel_trans C2 B3
  have p0_3 := p0_2.bel B3
  have W_3 := O2.bel B3
  obtain ⟨Wc0, Wc1, Wc2, Wc3⟩ := KW.cells
  go_wp2_with (fail)
  refine (toIntS_any (h0.bel C3) (by omega)).mono ?_
  clear Wc0 Wc1 Wc2 Wc3
  rintro e w4 ⟨gx0, rfl, O4, B4⟩
  have S4 : w3.heap.size ≤ w4.heap.size := B4.size
  have C4 := bel_trans C3 B4
  have W_4 := W_3.bel B4
  have KW_4 := KW.bel B4
  obtain ⟨Wc0, Wc1, Wc2, Wc3⟩ := KW_4.cells
  go_wp2_with (fail)
  refine ((HIM.out _ _ _ _ O4.has (by omega) ).out).mono ?_
  clear Wc0 Wc1 Wc2 Wc3
  rintro e w5 ⟨AG, nG, cG, rfl, O5, B5⟩
  have S5 : w4.heap.size ≤ w5.heap.size := B5.size
  have C5 := bel_trans C4 B5
  have W_5 := W_4.bel B5
  have x0_5 := O4.bel B5
  have KW_5 := KW_4.bel B5
  have hnG : nG ≤ 2000 := by have q1 := O5.has.len; have q2 := HOL.out; omega
  obtain ⟨w6, hw6⟩ : ∃ W, w5.alloc (.cells #[.slice AG nG cG, .int .i64 hh, .int .i64 ss, .bool dd] 27) = W := ⟨_, rfl⟩
  have B6 : Below w5.heap.size w5 w6 := hw6 ▸ below_alloc9 w5 _
  have KG : RunRow w6 w5.heap.size AG nG cG hh ss dd := hw6 ▸ runRow_alloc w5 AG nG cG hh ss dd
  have S6 : w5.heap.size ≤ w6.heap.size := B6.size
  have C6 := bel_trans C5 B6
  have W_6 := W_5.bel B6
  have x0_6 := x0_5.bel B6
  have G_6 := O5.bel B6
  have KW_6 := KW_5.bel B6
  obtain ⟨Wc0, Wc1, Wc2, Wc3⟩ := KW_6.cells
  obtain ⟨Gc0, Gc1, Gc2, Gc3⟩ := KG.cells
  go_wp2_with (fail)
  refine (eqTalkRun_b (c := cG) (c' := cW) G_6.has W_6.has (by omega)).mono ?_
  clear Wc0 Wc1 Wc2 Wc3
  clear Gc0 Gc1 Gc2 Gc3
  rintro e w7 ⟨rfl, B7⟩
  have S7 : w6.heap.size ≤ w7.heap.size := B7.size
  have C7 := bel_trans C6 B7
  have W_7 := W_6.bel B7
  have x0_7 := x0_6.bel B7
  have G_7 := G_6.bel B7
  have KW_7 := KW_6.bel B7
  have KG_7 := KG.bel B7
  obtain ⟨Wc0, Wc1, Wc2, Wc3⟩ := KW_7.cells
  obtain ⟨Gc0, Gc1, Gc2, Gc3⟩ := KG_7.cells
  go_wp2_with (fail)
  refine (toIntS_any (h0.bel C7) (by omega)).mono ?_
  clear Wc0 Wc1 Wc2 Wc3
  clear Gc0 Gc1 Gc2 Gc3
  rintro e w8 ⟨gy0, rfl, O8, B8⟩
  have S8 : w7.heap.size ≤ w8.heap.size := B8.size
  have C8 := bel_trans C7 B8
  have W_8 := W_7.bel B8
  have x0_8 := x0_7.bel B8
  have G_8 := G_7.bel B8
  have KW_8 := KW_7.bel B8
  have KG_8 := KG_7.bel B8
  obtain ⟨Wc0, Wc1, Wc2, Wc3⟩ := KW_8.cells
  obtain ⟨Gc0, Gc1, Gc2, Gc3⟩ := KG_8.cells
  go_wp2_with (fail)
  refine (eqIntS_b x0_8.has O8.has (by omega)).mono ?_
  clear Wc0 Wc1 Wc2 Wc3
  clear Gc0 Gc1 Gc2 Gc3
  rintro e w9 ⟨rfl, B9⟩
  have S9 : w8.heap.size ≤ w9.heap.size := B9.size
  have C9 := bel_trans C8 B9
  have W_9 := W_8.bel B9
  have x0_9 := x0_8.bel B9
  have G_9 := G_8.bel B9
  have y0_9 := O8.bel B9
  have KW_9 := KW_8.bel B9
  have KG_9 := KG_8.bel B9
  obtain ⟨Wc0, Wc1, Wc2, Wc3⟩ := KW_9.cells
  obtain ⟨Gc0, Gc1, Gc2, Gc3⟩ := KG_9.cells
  go_wp2_with (fail)
  refine (markIntS_any x0_9 (K := 1) (by omega) (by omega)).mono ?_
  clear Wc0 Wc1 Wc2 Wc3
  clear Gc0 Gc1 Gc2 Gc3
  rintro e w10 ⟨rfl, x0_10, M10⟩
  have S10 : w9.heap.size ≤ w10.heap.size := M10.size
  have C10 := bel_grown C9 M10 (O4.ge (by omega))
  have W_10 := W_9.earlier (z := w2) O2.lt (O4.ge (by omega)) M10
  have G_10 := G_9.later (fun ad hh => by have := O4.lt ad hh; omega) M10
  have KW_10 := KW_9.grown M10 (own_run x0_9 KW_9)
  have KG_10 := KG_9.grown M10 (own_run x0_9 KG_9)
  have hkB : decide (((1 + n0 : Nat) : Int) < 0) = false := by simp; omega
  obtain ⟨Wc0, Wc1, Wc2, Wc3⟩ := KW_10.cells
  obtain ⟨Gc0, Gc1, Gc2, Gc3⟩ := KG_10.cells
  go_wp2_with (fail)
  refine (eqTalkRun_b (c := cG) (c' := cW) G_10.has W_10.has (by omega)).mono ?_
  clear Wc0 Wc1 Wc2 Wc3
  clear Gc0 Gc1 Gc2 Gc3
  rintro e w11 ⟨rfl, B11⟩
  have S11 : w10.heap.size ≤ w11.heap.size := B11.size
  have C11 := bel_trans C10 B11
  have W_11 := W_10.bel B11
  have G_11 := G_10.bel B11
  have KW_11 := KW_10.bel B11
  have KG_11 := KG_10.bel B11
  obtain ⟨Wc0, Wc1, Wc2, Wc3⟩ := KW_11.cells
  obtain ⟨Gc0, Gc1, Gc2, Gc3⟩ := KG_11.cells
  go_wp2_with (fail)
  refine (markTalkRun_any (c := cG) G_11 (K := 1) (by omega) (by omega)).mono ?_
  clear Wc0 Wc1 Wc2 Wc3
  clear Gc0 Gc1 Gc2 Gc3
  rintro e w12 ⟨rfl, G_12, M12⟩
  have S12 : w11.heap.size ≤ w12.heap.size := M12.size
  have C12 := bel_grown C11 M12 (O5.ge (by omega))
  have W_12 := W_11.earlier (z := w2) O2.lt (O5.ge (by omega)) M12
  have KW_12 := KW_11.grown M12 (own_run G_11 KW_11)
  have KG_12 := KG_11.grown M12 (own_run G_11 KG_11)
  obtain ⟨Wc0, Wc1, Wc2, Wc3⟩ := KW_12.cells
  obtain ⟨Gc0, Gc1, Gc2, Gc3⟩ := KG_12.cells
  go_wp2_with (fail)
  refine (heldTalkRun_any (c := cG) G_12.has (by omega) (by omega)).mono ?_
  clear Wc0 Wc1 Wc2 Wc3
  clear Gc0 Gc1 Gc2 Gc3
  rintro e w13 ⟨rfl, B13⟩
  have S13 : w12.heap.size ≤ w13.heap.size := B13.size
  have C13 := bel_trans C12 B13
  have W_13 := W_12.bel B13
  have G_13 := G_12.bel B13
  have KW_13 := KW_12.bel B13
  have KG_13 := KG_12.bel B13
  have hgB : decide (((1 + nG : Nat) : Int) < 0) = false := by simp; omega
  have hmB : (((1 + nG : Nat) : Int) != ((1 + nG : Nat) : Int)) = false := by simp
  obtain ⟨Wc0, Wc1, Wc2, Wc3⟩ := KW_13.cells
  obtain ⟨Gc0, Gc1, Gc2, Gc3⟩ := KG_13.cells
  go_wp2_with (fail)
  refine (toIntS_any (h0.bel C13) (by omega)).mono ?_
  clear Wc0 Wc1 Wc2 Wc3
  clear Gc0 Gc1 Gc2 Gc3
  rintro e w14 ⟨gz0, rfl, O14, B14⟩
  have S14 : w13.heap.size ≤ w14.heap.size := B14.size
  have C14 := bel_trans C13 B14
  have W_14 := W_13.bel B14
  have G_14 := G_13.bel B14
  have KW_14 := KW_13.bel B14
  have KG_14 := KG_13.bel B14
  obtain ⟨Wc0, Wc1, Wc2, Wc3⟩ := KW_14.cells
  obtain ⟨Gc0, Gc1, Gc2, Gc3⟩ := KG_14.cells
  go_wp2_with (fail)
  refine ((HIM.out _ _ _ _ O14.has (by omega) ).out).mono ?_
  clear Wc0 Wc1 Wc2 Wc3
  clear Gc0 Gc1 Gc2 Gc3
  rintro e w15 ⟨AH, nH, cH, rfl, O15, B15⟩
  have S15 : w14.heap.size ≤ w15.heap.size := B15.size
  have C15 := bel_trans C14 B15
  have W_15 := W_14.bel B15
  have G_15 := G_14.bel B15
  have z0_15 := O14.bel B15
  have KW_15 := KW_14.bel B15
  have KG_15 := KG_14.bel B15
  have hnH : nH ≤ 2000 := by have q1 := O15.has.len; have q2 := HOL.out; omega
  obtain ⟨w16, hw16⟩ : ∃ W, w15.alloc (.cells #[.slice AH nH cH, .int .i64 hh, .int .i64 ss, .bool dd] 27) = W := ⟨_, rfl⟩
  have B16 : Below w15.heap.size w15 w16 := hw16 ▸ below_alloc9 w15 _
  have KH : RunRow w16 w15.heap.size AH nH cH hh ss dd := hw16 ▸ runRow_alloc w15 AH nH cH hh ss dd
  have S16 : w15.heap.size ≤ w16.heap.size := B16.size
  have C16 := bel_trans C15 B16
  have W_16 := W_15.bel B16
  have G_16 := G_15.bel B16
  have z0_16 := z0_15.bel B16
  have H_16 := O15.bel B16
  have KW_16 := KW_15.bel B16
  have KG_16 := KG_15.bel B16
  obtain ⟨Wc0, Wc1, Wc2, Wc3⟩ := KW_16.cells
  obtain ⟨Gc0, Gc1, Gc2, Gc3⟩ := KG_16.cells
  obtain ⟨Hc0, Hc1, Hc2, Hc3⟩ := KH.cells
  go_wp2_with (fail)
  refine (eqTalkRun_b (c := cH) (c' := cW) H_16.has W_16.has (by omega)).mono ?_
  clear Wc0 Wc1 Wc2 Wc3
  clear Gc0 Gc1 Gc2 Gc3
  clear Hc0 Hc1 Hc2 Hc3
  rintro e w17 ⟨rfl, B17⟩
  have S17 : w16.heap.size ≤ w17.heap.size := B17.size
  have C17 := bel_trans C16 B17
  have W_17 := W_16.bel B17
  have G_17 := G_16.bel B17
  have H_17 := H_16.bel B17
  have KW_17 := KW_16.bel B17
  have KG_17 := KG_16.bel B17
  have KH_17 := KH.bel B17
  obtain ⟨Wc0, Wc1, Wc2, Wc3⟩ := KW_17.cells
  obtain ⟨Gc0, Gc1, Gc2, Gc3⟩ := KG_17.cells
  obtain ⟨Hc0, Hc1, Hc2, Hc3⟩ := KH_17.cells
  go_wp2_with (fail)
  refine (heldTalkRun_any (c := cG) G_17.has (by omega) (by omega)).mono ?_
  clear Wc0 Wc1 Wc2 Wc3
  clear Gc0 Gc1 Gc2 Gc3
  clear Hc0 Hc1 Hc2 Hc3
  rintro e w18 ⟨rfl, B18⟩
  have S18 : w17.heap.size ≤ w18.heap.size := B18.size
  have C18 := bel_trans C17 B18
  have W_18 := W_17.bel B18
  have G_18 := G_17.bel B18
  have H_18 := H_17.bel B18
  have KW_18 := KW_17.bel B18
  have KG_18 := KG_17.bel B18
  have KH_18 := KH_17.bel B18
  obtain ⟨Wc0, Wc1, Wc2, Wc3⟩ := KW_18.cells
  obtain ⟨Gc0, Gc1, Gc2, Gc3⟩ := KG_18.cells
  obtain ⟨Hc0, Hc1, Hc2, Hc3⟩ := KH_18.cells
  go_wp2
  go_ret
  exact ⟨rfl, C18⟩
set_option maxRecDepth 100000 in
theorem lifted_FnExactRunToken (os : Os) (started : os.Started) (H : Type) (enc : TypeId × Value → H) :
    ReturnsInHanded {} Try.checked os 13 .any (Rows.fnExactRunTokenSpec.pre6 enc Try.prog Try.f13 Rows.fnExactRunTokenRow.domain false) (Rows.fnExactRunTokenSpec.post enc Try.prog Try.f13 false true false false) := by
  refine returnsInHanded_of_change (C := Try.checked) (by kernel_rfl) started (by kernel_rfl) Try.func13
    (ChangeSpec.witness6 (enc := enc) (C := Try.checked) false ⟨#[], #[.slice none 0 0, .int .i64 0, .int .i64 0], []⟩ 8 (by kernel_rfl) (by kernel_rfl) (by kernel_rfl) (by kernel_rfl)) ?_
  intro W base args ds gs before hval0 hW hcnd _
  have hval : ∀ (j : Nat) t v, Try.f13.params[j]? = some t → args[j]? = some v → Value.okWide Try.prog W .any base t v := hval0
  have hW' := hW
  obtain ⟨p, q, hA0, hV, rfl, hfz, hnd⟩ := hW
  have hA : DataW.TrodAll enc Try.prog W 0 (fun _ => true) true Try.f13.params.toList args.toList ds p := hA0
  rw [Try.params13] at hA hval
  obtain ⟨v0, vs0, d0, ds0, p0, q0, hargs, rfl, rfl, h0, r0⟩ := trodAll_cons hA
  obtain ⟨v1, vs1, d1, ds1, p1, q1, rfl, rfl, rfl, h1, r1⟩ := trodAll_cons r0
  obtain ⟨v2, vs2, d2, ds2, p2, q2, rfl, rfl, rfl, h2, r2⟩ := trodAll_cons r1
  obtain ⟨rfl, rfl, rfl⟩ := trodAll_nil r2
  obtain rfl : args = #[v0, v1, v2] := by cases args; simp_all
  obtain ⟨rfl, rfl⟩ := trodVars_none hV
  obtain ⟨a0, len0, cap0, rfl⟩ := okWide_slice Try.underlying23 (hval 0 23 v0 rfl rfl)
  have k0 := h0
  have lt0 : ∀ x ∈ p0, x.block < W.heap.size := by obtain ⟨m, hm⟩ := k0; exact DataW.trod_lt m _ _ _ hm
  obtain ⟨z0, H0, U0, M0⟩ := has_of_trod (k := .i64) Try.underlying23 Try.underlying3 (by kernel_rfl) h0
  obtain ⟨a1, rfl, rfl, rfl, w1⟩ := open_int Try.underlying3 (hval 1 3 v1 rfl rfl) h1
  have b1 := i64_of_wf w1
  obtain ⟨a2, rfl, rfl, rfl, w2⟩ := open_int Try.underlying3 (hval 2 3 v2 rfl rfl) h2
  have b2 := i64_of_wf w2
  clear hA0 hval0
  refine (walk_FnExactRunToken H0 U0 M0 b1 b2).mono fun e W' ⟨he, bel⟩ => ?_
  subst he
  exact ⟨_, rfl, _, _, _, [], _, [], hW', trodAll_mk1 (shut_bool Try.underlying4 _), (trodAll_cons_mk (Below.trod (by kernel_rfl) (by kernel_rfl) (of_decide_eq_true (by kernel_rfl)) k0 bel lt0) (trodAll_cons_mk (shut_int Try.underlying3 w1) (trodAll_cons_mk (shut_int Try.underlying3 w2) trodAll_mk0))), rfl, bel.frame _, fun h => by cases h⟩

theorem fnExactRunToken_holds : Rows.FnExactRunTokenSaid :=
  OpenClaim.holds_of_wide 13 Try.f13 rfl rfl rfl rfl rfl rfl rfl ⟨rfl, rfl, rfl, rfl, rfl⟩ rfl rfl rfl rfl rfl (by kernel_rfl) Try.func13
    (by unfold joinedFacts; with_reducible refine Bool.and_eq_true_iff.2 ⟨?_, (by as_aux_lemma => kernel_rfl)⟩; with_reducible refine Bool.and_eq_true_iff.2 ⟨?_, (by as_aux_lemma => kernel_rfl)⟩; with_reducible refine Bool.and_eq_true_iff.2 ⟨?_, (by as_aux_lemma => kernel_rfl)⟩; with_reducible refine Bool.and_eq_true_iff.2 ⟨?_, (by as_aux_lemma => kernel_rfl)⟩; with_reducible refine Bool.and_eq_true_iff.2 ⟨?_, (by with_unfolding_all exact shutMake)⟩; with_reducible refine Bool.and_eq_true_iff.2 ⟨?_, (by with_unfolding_all exact shutLifts)⟩; with_reducible refine Bool.and_eq_true_iff.2 ⟨?_, shutEnter⟩; (repeat (with_reducible refine Bool.and_eq_true_iff.2 ⟨?_, (by as_aux_lemma => kernel_rfl)⟩)); as_aux_lemma => kernel_rfl)
    (of_decide_eq_true (by kernel_rfl)) (by unfold Func.isWrapper; first | (rw [if_pos (by decide +kernel)]; kernel_rfl) | (rw [if_neg (by decide +kernel)]; exact ⟨rfl, rfl⟩))
    (fun os started H enc _ => lifted_FnExactRunToken os started H enc)
end Go.Proofs.Ytpciaokafokfmaa
