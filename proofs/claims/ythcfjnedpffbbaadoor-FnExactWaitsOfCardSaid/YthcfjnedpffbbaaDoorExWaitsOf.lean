/-
  FnExactWaitsOf: for every argument the exact law of WaitsOf returns true and writes nothing that was there; the table of steps holds what the program text lays (tied).
-/
import Derived.Test.YthcfjnedpffbbaaDoorImp16j
import Derived.Test.YthcfjnedpffbbaaDoorListArgI
import Derived.Test.YthcfjnedpffbbaaDoorListLawsI
import Derived.Test.YthcfjnedpffbbaaDoorFabTie
import Derived.Test.YthcfjnedpffbbaaDoorShut
import Derived.Test.YthcfjnedpffbbaaDoorCards
import Derived.Test.YthcfjnedpffbbaaDoorTie
import Derived.Deep.DeepHandedRow
import Derived.OpenVars
namespace Go.Proofs.YthcfjnedpffbbaaDoor
open Go.RowKit Go.ChangeShapes Go.WideShapes Go.ChangeAt

theorem waitsL_len (w h : Int) (kss : List (List Int)) : (waitsL w h kss).length ≤ 10000 ∧ (∀ zs ∈ waitsL w h kss, zs.length ≤ 2) ∧ sumLenI (waitsL w h kss) ≤ 20000 := by
  have key : ∀ l : List (Nat × Nat), (∀ zs ∈ rows l, zs.length ≤ 2) ∧ sumLenI (rows l) = 2 * l.length := by
    intro l
    refine ⟨fun zs hz => ?_, ?_⟩
    · obtain ⟨x, _, rfl⟩ := List.mem_map.1 hz
      exact Nat.le_refl _
    · unfold sumLenI rows
      rw [List.map_map]
      induction l with
      | nil => rfl
      | cons x l ih =>
        rw [List.map_cons, List.sum_cons, ih, List.length_cons]
        show 2 + _ = _
        omega
  unfold waitsL
  split
  · have h1 := pl_len 100 (Waits (wiresAll w.toNat kss)) (100 * 100)
    have h2 := key (pl 100 (Waits (wiresAll w.toNat kss)) (100 * 100))
    rw [rows_len]
    refine ⟨by omega, h2.1, by rw [h2.2]; omega⟩
  · exact ⟨by simp, (fun zs hz => by cases hz), by simp [sumLenI]⟩
set_option maxHeartbeats 16000000 in
set_option maxRecDepth 100000 in
theorem walk_FnExactWaitsOf {a0 a1 : Int} {A2 : Option Addr} {n2 c2 : Nat} {cl : List (List Int)} {w : World} (hT : StepsIn w) (_ : -9223372036854775808 ≤ a0 ∧ a0 ≤ 9223372036854775807) (_ : -9223372036854775808 ≤ a1 ∧ a1 ≤ 9223372036854775807) (h2 : HasLI w A2 n2 cl) (_ : ∀ zs ∈ cl, ∀ z ∈ zs, (Lit.int .i64 z).wf = true) (hl2 : ∀ zs ∈ cl, zs.length ≤ maxLen) (hc2 : n2 ≤ c2 ∧ c2 ≤ maxLen) :
    Calls Tryd.prog 12 #[.int .i64 a0, .int .i64 a1, .slice A2 n2 c2] w fun e w' => e = .returned (.bool true) ∧ Below w.heap.size w w' := by
  have hmx2 : n2 ≤ 9223372036854775807 := by have h1 := hc2.1; have h2 := hc2.2; unfold maxLen at h2; omega
  have SY := Lib.hid (szIntSS_any (c := c2) (K := 1048576) (by omega) h2 hmx2 (fun zs hz => by have h3 := hl2 zs hz; unfold maxLen at h3; omega))
  obtain ⟨R, hR⟩ : ∃ R, waitsL a0 a1 cl = R := ⟨_, rfl⟩
  have hRl := waitsL_len a0 a1 cl
  rw [hR] at hRl
  have L3 := Lib.hid (show ∀ zs ∈ R, zs.length ≤ 16777216 from fun zs hz => by have := hRl.2.1 zs hz; omega)
  have hsR := hRl.2.2
  have hlR := hRl.1
  clear hRl
  have CS := Lib.hid (fun (W : World) (A : Option Addr) (n c : Nat) (h : HasLI W A n cl) (hn : n ≤ 16777216) (hl : ∀ ks ∈ cl, ks.length ≤ 16777216) => specWaitsOf_any (w := a0) (h := a1) (c := c) h hn hl)
  have CI := Lib.hid (fun (W : World) (hT : StepsIn W) (A : Option Addr) (n c : Nat) (h : HasLI W A n cl) (hn : n ≤ 16777216) (hl : ∀ ks ∈ cl, ks.length ≤ 16777216) => implWaitsOf_any (w := a0) (h := a1) (c := c) hT h hn hl)
  rw [hR] at CS CI
  clear hR
  go_enter Tryd.func12, Tryd.ntmps12
  go_wp2_with (fail)
  refine (SY.out).mono ?_
  rintro e w' ⟨sv, rfl, hv1, hv2, hv3, rfl⟩
  by_cases hsv : sv < 0
  · have hvB : decide (sv < 0) = true := decide_eq_true hsv
    go_wp2
    go_ret
    exact ⟨rfl, Below.refl _ _⟩
  have hvB : decide (sv < 0) = false := decide_eq_false hsv
  have hv4 := hv3 (by omega)
  have hn2 : n2 ≤ 1048576 := by omega
  have hs2 : sumLenI cl ≤ 1048576 := by omega
  have L4 := Lib.hid (show ∀ zs ∈ cl, zs.length ≤ 16777216 from fun zs hz => by have := len_le_sumI cl zs hz; omega)
  clear hsv hv3 hl2
  go_wp2_with (fail)
  refine (toIntSS_any (h2.bel (Below.refl _ _)) (by omega) L4.out).mono ?_
  rintro e w1 ⟨gQ, rfl, ⟨vQ, Q⟩, B1⟩
  have S1 : w.heap.size ≤ w1.heap.size := B1.size
  have C1 := B1
  have bQ : ∀ i, InL (some ⟨gQ, 0, none⟩ : Option Addr) vQ i → w.heap.size ≤ i ∧ i < w1.heap.size := fun i hi => Q.bounds hi
  go_wp2_with (fail)
  refine (CS.out _ _ _ _ Q.has (by omega) L4.out).mono ?_
  rintro e w2 ⟨AW, nW, cW, rfl, ⟨vW, W⟩, B2⟩
  have S2 : w1.heap.size ≤ w2.heap.size := B2.size
  have C2 := bel_trans C1 B2
  have Q_2 := Q.bel B2
  have bW : ∀ i, InL AW vW i → w1.heap.size ≤ i ∧ i < w2.heap.size := fun i hi => W.bounds hi
  have hnW : nW ≤ 10000 := by have q1 := W.has.len; omega
  go_wp2_with (fail)
  refine (toIntSS_any (h2.bel C2) (by omega) L4.out).mono ?_
  rintro e w3 ⟨gV, rfl, ⟨vV, V⟩, B3⟩
  have S3 : w2.heap.size ≤ w3.heap.size := B3.size
  have C3 := bel_trans C2 B3
  have W_3 := W.bel B3
  have bV : ∀ i, InL (some ⟨gV, 0, none⟩ : Option Addr) vV i → w2.heap.size ≤ i ∧ i < w3.heap.size := fun i hi => V.bounds hi
  go_wp2_with (fail)
  refine (CI.out _ (hT.bel C3) _ _ _ V.has (by omega) L4.out).mono ?_
  rintro e w4 ⟨AG, nG, cG, rfl, ⟨vG, G⟩, B4⟩
  have S4 : w3.heap.size ≤ w4.heap.size := B4.size
  have C4 := bel_trans C3 B4
  have W_4 := W_3.bel B4
  have V_4 := V.bel B4
  have bG : ∀ i, InL AG vG i → w3.heap.size ≤ i ∧ i < w4.heap.size := fun i hi => G.bounds hi
  have hnG : nG ≤ 10000 := by have q1 := G.has.len; omega
  go_wp2_with (fail)
  refine (eqIntSS_b G.has W_4.has (by omega) L3.out).mono ?_
  rintro e w5 ⟨rfl, B5⟩
  have S5 : w4.heap.size ≤ w5.heap.size := B5.size
  have C5 := bel_trans C4 B5
  have W_5 := W_4.bel B5
  have V_5 := V_4.bel B5
  have G_5 := G.bel B5
  go_wp2_with (fail)
  refine (toIntSS_any (h2.bel C5) (by omega) L4.out).mono ?_
  rintro e w6 ⟨gU, rfl, ⟨vU, U⟩, B6⟩
  have S6 : w5.heap.size ≤ w6.heap.size := B6.size
  have C6 := bel_trans C5 B6
  have W_6 := W_5.bel B6
  have V_6 := V_5.bel B6
  have G_6 := G_5.bel B6
  have bU : ∀ i, InL (some ⟨gU, 0, none⟩ : Option Addr) vU i → w5.heap.size ≤ i ∧ i < w6.heap.size := fun i hi => U.bounds hi
  go_wp2_with (fail)
  refine (eqIntSS_b V_6.has U.has (by omega) L4.out).mono ?_
  rintro e w7 ⟨rfl, B7⟩
  have S7 : w6.heap.size ≤ w7.heap.size := B7.size
  have C7 := bel_trans C6 B7
  have W_7 := W_6.bel B7
  have V_7 := V_6.bel B7
  have G_7 := G_6.bel B7
  have U_7 := U.bel B7
  go_wp2_with (fail)
  refine (markIntSS_any V_7 (K := 1) (by omega) L4.out (by omega)).mono ?_
  rintro e w8 ⟨rfl, Vm, T8⟩
  have S8 : w7.heap.size ≤ w8.heap.size := T8.2.2.2.1
  have C8 : Below w.heap.size w w8 := C7.trans (T8.below (by omega) (fun v hv b hb => by have := bV b (.inr ⟨v, hv, hb⟩); omega))
  have W_8 := W_7.heapEq (w' := w8) (fun i hi => T8.2.2.2.2 _ (by have := bW i hi; omega) (fun v hv hb => by have h1 := bW i hi; have h2 := bV i (.inr ⟨v, hv, hb⟩); omega))
  have G_8 := G_7.heapEq (w' := w8) (fun i hi => T8.2.2.2.2 _ (by have := bG i hi; omega) (fun v hv hb => by have h1 := bG i hi; have h2 := bV i (.inr ⟨v, hv, hb⟩); omega))
  go_wp2_with (fail)
  refine (eqIntSS_b G_8.has W_8.has (by omega) L3.out).mono ?_
  rintro e w9 ⟨rfl, B9⟩
  have S9 : w8.heap.size ≤ w9.heap.size := B9.size
  have C9 := bel_trans C8 B9
  have W_9 := W_8.bel B9
  have G_9 := G_8.bel B9
  go_wp2_with (fail)
  refine (markIntSS_any G_9 (K := 1) (by omega) L3.out (by omega)).mono ?_
  rintro e w10 ⟨rfl, Gm, T10⟩
  have S10 : w9.heap.size ≤ w10.heap.size := T10.2.2.2.1
  have C10 : Below w.heap.size w w10 := C9.trans (T10.below (by omega) (fun v hv b hb => by have := bG b (.inr ⟨v, hv, hb⟩); omega))
  have W_10 := W_9.heapEq (w' := w10) (fun i hi => T10.2.2.2.2 _ (by have := bW i hi; omega) (fun v hv hb => by have h1 := bW i hi; have h2 := bG i (.inr ⟨v, hv, hb⟩); omega))
  go_wp2_with (fail)
  refine (heldIntSS_any (K := 1) Gm.has (by omega) L3.out (by omega)).mono ?_
  rintro e w' ⟨rfl, rfl⟩
  go_wp2_with (fail)
  refine (toIntSS_any (h2.bel C10) (by omega) L4.out).mono ?_
  rintro e w11 ⟨gT, rfl, ⟨vT, T⟩, B11⟩
  have S11 : w10.heap.size ≤ w11.heap.size := B11.size
  have C11 := bel_trans C10 B11
  have W_11 := W_10.bel B11
  have G_11 := Gm.bel B11
  have bT : ∀ i, InL (some ⟨gT, 0, none⟩ : Option Addr) vT i → w10.heap.size ≤ i ∧ i < w11.heap.size := fun i hi => T.bounds hi
  go_wp2_with (fail)
  refine (CI.out _ (hT.bel C11) _ _ _ T.has (by omega) L4.out).mono ?_
  rintro e w12 ⟨AH, nH, cH, rfl, ⟨vH, H⟩, B12⟩
  have S12 : w11.heap.size ≤ w12.heap.size := B12.size
  have C12 := bel_trans C11 B12
  have W_12 := W_11.bel B12
  have G_12 := G_11.bel B12
  have T_12 := T.bel B12
  have bH : ∀ i, InL AH vH i → w11.heap.size ≤ i ∧ i < w12.heap.size := fun i hi => H.bounds hi
  have hnH : nH ≤ 10000 := by have q1 := H.has.len; omega
  go_wp2_with (fail)
  refine (eqIntSS_b H.has W_12.has (by omega) L3.out).mono ?_
  rintro e w13 ⟨rfl, B13⟩
  have S13 : w12.heap.size ≤ w13.heap.size := B13.size
  have C13 := bel_trans C12 B13
  have W_13 := W_12.bel B13
  have G_13 := G_12.bel B13
  have H_13 := H.bel B13
  go_wp2_with (fail)
  refine (heldIntSS_any (K := 1) G_13.has (by omega) L3.out (by omega)).mono ?_
  rintro e w' ⟨rfl, rfl⟩
  go_wp2
  go_ret
  exact ⟨rfl, C13⟩
namespace fnExactWaitsOfCard
noncomputable def laidWorld (os : Os) : World :=
  { World.holding Tryd.prog os ⟨#[], #[], []⟩ with heap := ((World.holding Tryd.prog os ⟨#[], #[], []⟩).heap.modify 0 (fun | .cells _ t frozen => .cells stepCells t frozen | o => o)) }
theorem laid_met (os : Os) : laidMet Tryd.prog Rows.fnExactWaitsOfRow.laid ((laidWorld os).forCall (fun _ _ => 0) ⟨#[], #[.int .i64 0, .int .i64 0, .slice none 0 0], []⟩).memory :=
  laidMet_of_run' 8 (by kernel_rfl) (by kernel_rfl)
theorem reads (os : Os) {H : Type} (enc : TypeId × Value → H) : ∃ places, DataW.whole enc Tryd.prog ((laidWorld os).forCall (fun _ _ => 0) ⟨#[], #[.int .i64 0, .int .i64 0, .slice none 0 0], []⟩).memory Tryd.f12.params.toList Rows.fnExactWaitsOfSpec.vars false (#[.int .i64 0, .int .i64 0, .slice none 0 0] : Array Value).toList 8 = some ([.lit (.int .i64 0), .lit (.int .i64 0), .nil], [Rows.laid_loop_example_wholenet_impl_wireSteps], places) :=
  ⟨MemPlace.row ⟨0, 0, none⟩ 8, by kernel_rfl⟩
set_option maxRecDepth 100000 in
theorem lifted (os : Os) (started : os.Started) (H : Type) (enc : TypeId × Value → H) (F : Stop.Interp) :
    ReturnsInHanded {} Tryd.checked os 12 .any ((OpenSpec.ofChange Rows.fnExactWaitsOfSpec).preRow enc Tryd.prog Tryd.f12 Rows.fnExactWaitsOfRow.domain false Rows.fnExactWaitsOfRow.laid) (((OpenSpec.ofChange Rows.fnExactWaitsOfSpec).at F).post enc Tryd.prog Tryd.f12 false true false false) := by
  obtain ⟨places, hx⟩ := reads os enc
  refine returnsInHanded_of_row (C := Tryd.checked) (s := OpenSpec.ofChange Rows.fnExactWaitsOfSpec) (by kernel_rfl) started (by kernel_rfl) Tryd.func12
    (witness_row_at (enc := enc) (C := Tryd.checked) false (laidWorld os) #[.int .i64 0, .int .i64 0, .slice none 0 0] rfl (by kernel_rfl) (by kernel_rfl) (by kernel_rfl)
      (OpenSpec.preRow_of_cond 8 hx (by kernel_rfl) (fun k hk => by cases hk) (by kernel_rfl) (laid_met os))) ?_
  intro W base args ds gs before hval0 hW _ _ _ hL _ _
  have hval : ∀ (j : Nat) t v, Tryd.f12.params[j]? = some t → args[j]? = some v → Value.okWide Tryd.prog W .any base t v := hval0
  have hW' := hW
  obtain ⟨p, q, hA0, hV0, rfl, hfz, hnd⟩ := hW
  have hV : DataW.TrodVars enc Tryd.prog W (fun _ => true) ["loop.example/wholenet/impl.wireSteps"] gs q := hV0
  have hA : DataW.TrodAll enc Tryd.prog W 0 (fun _ => true) true Tryd.f12.params.toList args.toList ds p := hA0
  rw [Tryd.params12] at hA hval
  obtain ⟨v0, vs0, d0, ds0, p0, q0, hargs, rfl, rfl, h0, r0⟩ := trodAll_cons hA
  obtain ⟨v1, vs1, d1, ds1, p1, q1, rfl, rfl, rfl, h1, r1⟩ := trodAll_cons r0
  obtain ⟨v2, vs2, d2, ds2, p2, q2, rfl, rfl, rfl, h2, r2⟩ := trodAll_cons r1
  obtain ⟨rfl, rfl, rfl⟩ := trodAll_nil r2
  obtain rfl : args = #[v0, v1, v2] := by cases args; simp_all
  obtain ⟨_, _, _, _, e0, _, rfl, _⟩ := trodVars_one hV
  have Tsteps := steps_of (rest := []) hL
  obtain ⟨a0, rfl, rfl, rfl, w0⟩ := open_int Tryd.underlying3 (hval 0 3 v0 rfl rfl) h0
  have b0 := i64_of_wf w0
  obtain ⟨a1, rfl, rfl, rfl, w1⟩ := open_int Tryd.underlying3 (hval 1 3 v1 rfl rfl) h1
  have b1 := i64_of_wf w1
  obtain ⟨a2, len2, cap2, rfl⟩ := okWide_slice Tryd.underlying33 (hval 2 33 v2 rfl rfl)
  have k2 := h2
  have lt2 : ∀ x ∈ p2, x.block < W.heap.size := by obtain ⟨m, hm⟩ := k2; exact DataW.trod_lt m _ _ _ hm
  obtain ⟨z2, H2, U2, N2, M2⟩ := hasLI_of_trod Tryd.underlying33 Tryd.underlying25 Tryd.underlying3 (by kernel_rfl) (by kernel_rfl) h2
  clear hA0 hval0
  refine (walk_FnExactWaitsOf Tsteps b0 b1 H2 U2 N2 M2).mono fun e W' ⟨he, bel⟩ => ?_
  subst he
  exact ⟨_, rfl, _, _, _, [], _, _, hW', trodAll_mk1 (shut_bool Tryd.underlying4 _), (trodAll_cons_mk (shut_int Tryd.underlying3 w0) (trodAll_cons_mk (shut_int Tryd.underlying3 w1) (trodAll_cons_mk (Below.trod (by kernel_rfl) (by kernel_rfl) (of_decide_eq_true (by kernel_rfl)) k2 bel lt2) trodAll_mk0))), Below.trodVars (by kernel_rfl) bel (by kernel_rfl) hV, bel.frame _, fun h => by cases h⟩
theorem said : Rows.FnExactWaitsOfSaid :=
  OpenClaim.holds_of_cond 12 Tryd.f12 rfl rfl rfl rfl rfl rfl rfl ⟨rfl, rfl, rfl, rfl, rfl⟩ rfl rfl rfl rfl rfl (by kernel_rfl) Tryd.func12 (by kernel_rfl)
    (of_decide_eq_true (by kernel_rfl)) (by unfold Func.isWrapper; first | (rw [if_pos (by decide +kernel)]; kernel_rfl) | (rw [if_neg (by decide +kernel)]; exact ⟨rfl, rfl⟩))
    (fun os started H enc _ F => by rw [OpenClaim.pre_eq_preRow]; exact lifted os started H enc F)
theorem plain (f : FuncId) (fn : Func) (hf : Tryd.pinned.checked.prog.funcNamed "loop.example/wholenet/laws.FnExactWaitsOf" = some f) (hfn : Tryd.pinned.checked.prog.funcs[f]? = some fn) :
    false = Tryd.pinned.checked.prog.looks [] ∧ ∀ (j : Nat) t, fn.params[j]? = some t → Tryd.pinned.checked.prog.wantsStandIn t = false := by
  obtain rfl : f = 12 := Option.some.inj ((show Tryd.prog.funcNamed "loop.example/wholenet/laws.FnExactWaitsOf" = some 12 by kernel_rfl).symm.trans hf) |>.symm
  obtain rfl : fn = Tryd.f12 := (Option.some.inj (Tryd.func12.symm.trans hfn)).symm
  refine ⟨by kernel_rfl, fun j t ht => ?_⟩
  rw [Tryd.params12] at ht
  have hm : t = 3 ∨ t = 33 := by simpa using Array.mem_of_getElem? ht
  rcases hm with rfl | rfl
  · exact (show Tryd.prog.wantsStandIn 3 = false by kernel_rfl)
  · exact (show Tryd.prog.wantsStandIn 33 = false by kernel_rfl)
end fnExactWaitsOfCard
theorem fnExactWaitsOf_card : Rows.FnExactWaitsOfCardSaid :=
  Claim7.holds_tied_plain_at .later [] _ _ _ _ fnExactWaitsOfCard.said (fun _ h => by cases h) (by kernel_rfl) (fun _ h => by cases h) fnExactWaitsOf_row_tie rfl ⟨rfl, rfl⟩ (by kernel_rfl) rfl fnExactWaitsOfCard.plain (by kernel_rfl)
end Go.Proofs.YthcfjnedpffbbaaDoor
