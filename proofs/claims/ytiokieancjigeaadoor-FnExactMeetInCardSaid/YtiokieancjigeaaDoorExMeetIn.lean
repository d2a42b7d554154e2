/-
  FnExactMeetIn: for every argument the exact law of MeetIn returns true and writes nothing that was there. The table of math/bits holds what the program text lays (tied).
-/
import Derived.Test.YtiokieancjigeaaDoorVlanM
import Derived.Test.YtiokieancjigeaaDoorImp10h
import Derived.Test.YtiokieancjigeaaDoorCards
import Derived.Test.YtiokieancjigeaaDoorTie
import Derived.Deep.DeepHandedRow
import Derived.OpenVars
namespace Go.Proofs.YtiokieancjigeaaDoor
open Go.RowKit Go.ChangeShapes Go.WideShapes Go.ChangeAt

set_option maxRecDepth 100000 in
set_option maxHeartbeats 8000000 in
theorem walk_FnExactMeetIn {A0 : Option Addr} {n0 c0 : Nat} {ps : List Port} {a1 : Int} {a2 : Int} {w : World} (hT : TzIn w) (h0 : HasP w A0 n0 ps) (hmax : MaxP ps) (hc : n0 ≤ c0 ∧ c0 ≤ maxLen) (_ : -9223372036854775808 ≤ a1 ∧ a1 ≤ 9223372036854775807) (_ : -9223372036854775808 ≤ a2 ∧ a2 ≤ 9223372036854775807) :
    Calls Tryd.prog 4 #[.slice A0 n0 c0, .int .i64 a1, .int .i64 a2] w fun e w' => e = .returned (.bool true) ∧ Below w.heap.size w w' := by
  have hn9 : n0 ≤ 9223372036854775807 := Nat.le_trans hc.1 (Nat.le_trans hc.2 (by unfold maxLen; omega))
  obtain ⟨R, hR⟩ : ∃ R, meetI ps a1 a2 = R := ⟨_, rfl⟩
  have hRl : R.length ≤ 16 := by rw [← hR]; have := meetI_len ps a1 a2; omega
  clear hc
  go_enter Tryd.func4, Tryd.ntmps4
  go_wp2_with (fail)
  refine (szVPortS_any h0 hn9 hmax).mono ?_
  rintro e w1 ⟨v, rfl, v0, v1, HV, B1⟩
  have S1 : w.heap.size ≤ w1.heap.size := B1.size
  have C1 := B1
  by_cases hv : v < 0
  · have vB : decide (v < 0) = true := by simp; omega
    clear hv v0 v1 hRl
    go_wp2
    go_ret
    exact ⟨rfl, C1⟩
  have vB : decide (v < 0) = false := by simp; omega
  obtain ⟨hn, hs⟩ := HV.out (by omega)
  have hl := hs.lenP
  clear hv v0 v1 HV
  go_wp2_with (fail)
  refine (toVPortS_any (h0.bel C1) (by omega) hl).mono ?_
  rintro e w2 ⟨pv2, rfl, O2, B2⟩
  have S2 : w1.heap.size ≤ w2.heap.size := B2.size
  have C2 := bel_trans C1 B2
  have L2 : w1.heap.size < w2.heap.size := (O2.row rfl).2
  go_wp2_with (fail)
  refine (specMeetIn_r O2.has (by omega) hl hR).mono ?_
  rintro e w3 ⟨AW, nW, cW, rfl, O3, B3⟩
  have S3 : w2.heap.size ≤ w3.heap.size := B3.size
  have C3 := bel_trans C2 B3
  have p_3 := O2.bel B3
  have hnW : nW ≤ 16 := by have q1 := O3.has.len; omega
  go_wp2_with (fail)
  refine (toVPortS_any (h0.bel C3) (by omega) hl).mono ?_
  rintro e w4 ⟨pv4, rfl, O4, B4⟩
  have S4 : w3.heap.size ≤ w4.heap.size := B4.size
  have C4 := bel_trans C3 B4
  have W_4 := O3.bel B4
  have L4 : w3.heap.size < w4.heap.size := (O4.row rfl).2
  go_wp2_with (fail)
  refine (implMeetIn_r (hT.bel C4) O4.has (by omega) hl hR).mono ?_
  rintro e w5 ⟨AG, nG, cG, rfl, O5, B5⟩
  have S5 : w4.heap.size ≤ w5.heap.size := B5.size
  have C5 := bel_trans C4 B5
  have W_5 := W_4.bel B5
  have x_5 := O4.bel B5
  have hnG : nG ≤ 16 := by have q1 := O5.has.len; omega
  go_wp2_with (fail)
  refine (eqIntS_b (c := cG) (c' := cW) O5.has W_5.has (by omega)).mono ?_
  rintro e w6 ⟨rfl, B6⟩
  have S6 : w5.heap.size ≤ w6.heap.size := B6.size
  have C6 := bel_trans C5 B6
  have W_6 := W_5.bel B6
  have x_6 := x_5.bel B6
  have G_6 := O5.bel B6
  go_wp2_with (fail)
  refine (toVPortS_any (h0.bel C6) (by omega) hl).mono ?_
  rintro e w7 ⟨pv7, rfl, O7, B7⟩
  have S7 : w6.heap.size ≤ w7.heap.size := B7.size
  have C7 := bel_trans C6 B7
  have W_7 := W_6.bel B7
  have x_7 := x_6.bel B7
  have G_7 := G_6.bel B7
  have L7 : w6.heap.size < w7.heap.size := (O7.row rfl).2
  go_wp2_with (fail)
  refine (eqVPortS_same x_7.has O7.has (by omega) hl).mono ?_
  rintro e w8 ⟨rfl, B8⟩
  have S8 : w7.heap.size ≤ w8.heap.size := B8.size
  have C8 := bel_trans C7 B8
  have W_8 := W_7.bel B8
  have x_8 := x_7.bel B8
  have G_8 := G_7.bel B8
  have y_8 := O7.bel B8
  go_wp2_with (fail)
  refine (markVPortS_any (lo := w3.heap.size) (hi := w4.heap.size) (K := 1) x_8 hn hs (fun b hb => (O4.bounds hb).2) (by omega)).mono ?_
  rintro e w9 ⟨⟨kv, rfl⟩, M9⟩
  have S9 : w8.heap.size ≤ w9.heap.size := M9.size
  have C9 := C8.trans (M9.below (B := w.heap.size) (by omega) (by omega))
  have kB : decide ((kv : Int) < 0) = false := decide_eq_false (by omega)
  have G_9 := M9.own G_8 (fun b hb => .inr (by have := (blk_lt O5 hb).1; omega))
  have W_9 := M9.own W_8 (fun b hb => .inl (by have := (blk_lt O3 hb).2; omega))
  go_wp2_with (fail)
  refine (eqIntS_b (c := cG) (c' := cW) G_9.has W_9.has (by omega)).mono ?_
  rintro e w10 ⟨rfl, B10⟩
  have S10 : w9.heap.size ≤ w10.heap.size := B10.size
  have C10 := bel_trans C9 B10
  have W_10 := W_9.bel B10
  have G_10 := G_9.bel B10
  go_wp2_with (fail)
  refine (markIntS_any G_10 (by omega) (K := 1) (by omega)).mono ?_
  rintro e w11 ⟨rfl, G_11, G11⟩
  have M11 : Win w4.heap.size w5.heap.size w10 w11 := Win.of_grown G11 (fun b hb => blk_lt O5 (map_blk hb _ _))
  have S11 : w10.heap.size ≤ w11.heap.size := M11.size
  have C11 := C10.trans (M11.below (B := w.heap.size) (by omega) (by omega))
  have W_11 := M11.own W_10 (fun b hb => .inl (by have := (blk_lt O3 hb).2; omega))
  go_wp2_with (fail)
  refine (heldIntS_any (c := cG) (K := 1) G_11.has (by omega) (by omega)).mono ?_
  rintro e w' ⟨rfl, rfl⟩
  go_wp2_with (fail)
  refine (toVPortS_any (h0.bel C11) (by omega) hl).mono ?_
  rintro e w12 ⟨pv12, rfl, O12, B12⟩
  have S12 : w11.heap.size ≤ w12.heap.size := B12.size
  have C12 := bel_trans C11 B12
  have W_12 := W_11.bel B12
  have G_12 := G_11.bel B12
  have L12 : w11.heap.size < w12.heap.size := (O12.row rfl).2
  go_wp2_with (fail)
  refine (implMeetIn_r (hT.bel C12) O12.has (by omega) hl hR).mono ?_
  rintro e w13 ⟨AH, nH, cH, rfl, O13, B13⟩
  have S13 : w12.heap.size ≤ w13.heap.size := B13.size
  have C13 := bel_trans C12 B13
  have W_13 := W_12.bel B13
  have G_13 := G_12.bel B13
  have z_13 := O12.bel B13
  have hnH : nH ≤ 16 := by have q1 := O13.has.len; omega
  go_wp2_with (fail)
  refine (eqIntS_b (c := cH) (c' := cW) O13.has W_13.has (by omega)).mono ?_
  rintro e w14 ⟨rfl, B14⟩
  have S14 : w13.heap.size ≤ w14.heap.size := B14.size
  have C14 := bel_trans C13 B14
  have W_14 := W_13.bel B14
  have G_14 := G_13.bel B14
  have H_14 := O13.bel B14
  go_wp2_with (fail)
  refine (heldIntS_any (c := cG) (K := 1) G_14.has (by omega) (by omega)).mono ?_
  rintro e w' ⟨rfl, rfl⟩
  go_wp2
  go_ret
  exact ⟨rfl, C14⟩
namespace fnExactMeetInCard
noncomputable def laidWorld (os : Os) : World :=
  { World.holding Tryd.prog os ⟨#[], #[], []⟩ with heap := (((World.holding Tryd.prog os ⟨#[], #[], []⟩).heap.modify 0 (fun | .cells _ t frozen => .cells (ints .u8 tz32).toArray t frozen | o => o)).modify 1 (fun | .cells _ t frozen => .cells (ints .u8 tzTab).toArray t frozen | o => o)) }
theorem laid_met (os : Os) : laidMet Tryd.prog Rows.fnExactMeetInRow.laid ((laidWorld os).forCall (fun _ _ => 0) ⟨#[], #[.slice none 0 0, .int .i64 0, .int .i64 0], []⟩).memory :=
  laidMet_of_run' 8 (by kernel_rfl) (by kernel_rfl)
theorem reads (os : Os) {H : Type} (enc : TypeId × Value → H) : ∃ places, DataW.whole enc Tryd.prog ((laidWorld os).forCall (fun _ _ => 0) ⟨#[], #[.slice none 0 0, .int .i64 0, .int .i64 0], []⟩).memory Tryd.f4.params.toList Rows.fnExactMeetInSpec.vars false (#[.slice none 0 0, .int .i64 0, .int .i64 0] : Array Value).toList 8 = some ([.nil, .lit (.int .i64 0), .lit (.int .i64 0)], [], places) :=
  ⟨[], by kernel_rfl⟩
set_option maxRecDepth 100000 in
theorem lifted (os : Os) (started : os.Started) (H : Type) (enc : TypeId × Value → H) (F : Stop.Interp) :
    ReturnsInHanded {} Tryd.checked os 4 .any ((OpenSpec.ofChange Rows.fnExactMeetInSpec).preRow enc Tryd.prog Tryd.f4 Rows.fnExactMeetInRow.domain false Rows.fnExactMeetInRow.laid) (((OpenSpec.ofChange Rows.fnExactMeetInSpec).at F).post enc Tryd.prog Tryd.f4 false true false false) := by
  obtain ⟨places, hx⟩ := reads os enc
  refine returnsInHanded_of_row (C := Tryd.checked) (s := OpenSpec.ofChange Rows.fnExactMeetInSpec) (by kernel_rfl) started (by kernel_rfl) Tryd.func4
    (witness_row_at (enc := enc) (C := Tryd.checked) false (laidWorld os) #[.slice none 0 0, .int .i64 0, .int .i64 0] rfl (by kernel_rfl) (by kernel_rfl) (by kernel_rfl)
      (OpenSpec.preRow_of_cond 8 hx (by kernel_rfl) (fun k hk => by cases hk) (by kernel_rfl) (laid_met os))) ?_
  intro W base args ds gs before hval0 hW _ _ _ hL _ _
  have hval : ∀ (j : Nat) t v, Tryd.f4.params[j]? = some t → args[j]? = some v → Value.okWide Tryd.prog W .any base t v := hval0
  have hW' := hW
  obtain ⟨p, q, hA0, hV0, rfl, hfz, hnd⟩ := hW
  have hV : DataW.TrodVars enc Tryd.prog W (fun _ => true) [] gs q := hV0
  have hA : DataW.TrodAll enc Tryd.prog W 0 (fun _ => true) true Tryd.f4.params.toList args.toList ds p := hA0
  rw [Tryd.params4] at hA hval
  obtain ⟨v0, vs0, d0, ds0, p0, q0, hargs, rfl, rfl, h0, r0⟩ := trodAll_cons hA
  obtain ⟨v1, vs1, d1, ds1, p1, q1, rfl, rfl, rfl, h1, r1⟩ := trodAll_cons r0
  obtain ⟨v2, vs2, d2, ds2, p2, q2, rfl, rfl, rfl, h2, r2⟩ := trodAll_cons r1
  obtain ⟨rfl, rfl, rfl⟩ := trodAll_nil r2
  obtain rfl : args = #[v0, v1, v2] := by cases args; simp_all
  obtain ⟨rfl, rfl⟩ := trodVars_none hV
  have Ttz := tz_of (rest := []) (laidMet.filter (fun x => x.1 == "math/bits.deBruijn64tab") (show laidMet Tryd.prog [("math/bits.deBruijn32tab", Rows.laid_math_bits_deBruijn32tab), ("math/bits.deBruijn64tab", Rows.laid_math_bits_deBruijn64tab)] W from hL))
  obtain ⟨a0, len0, cap0, rfl⟩ := okWide_slice Tryd.underlying39 (hval 0 39 v0 rfl rfl)
  have k0 := h0
  have lt0 : ∀ x ∈ p0, x.block < W.heap.size := by obtain ⟨m, hm⟩ := k0; exact DataW.trod_lt m _ _ _ hm
  obtain ⟨z0, H0, U0, M0⟩ := hasP_of_trod Tryd.underlying39 Tryd.underlying71 (by kernel_rfl) (by kernel_rfl) Tryd.underlying3 Tryd.underlying3 Tryd.underlying26 Tryd.underlying3 (by kernel_rfl) h0
  obtain ⟨a1, rfl, rfl, rfl, w1⟩ := open_int Tryd.underlying3 (hval 1 3 v1 rfl rfl) h1
  have b1 := i64_of_wf w1
  obtain ⟨a2, rfl, rfl, rfl, w2⟩ := open_int Tryd.underlying3 (hval 2 3 v2 rfl rfl) h2
  have b2 := i64_of_wf w2
  clear hA0 hval0
  refine (walk_FnExactMeetIn Ttz H0 U0 M0 b1 b2).mono fun e W' ⟨he, bel⟩ => ?_
  subst he
  exact ⟨_, rfl, _, _, _, [], _, [], hW', trodAll_mk1 (shut_bool Tryd.underlying4 _), (trodAll_cons_mk (Below.trod (by kernel_rfl) (by kernel_rfl) (of_decide_eq_true (by kernel_rfl)) k0 bel lt0) (trodAll_cons_mk (shut_int Tryd.underlying3 w1) (trodAll_cons_mk (shut_int Tryd.underlying3 w2) trodAll_mk0))), rfl, bel.frame _, fun h => by cases h⟩
theorem said : Rows.FnExactMeetInSaid :=
  OpenClaim.holds_of_cond 4 Tryd.f4 rfl rfl rfl rfl rfl rfl rfl ⟨rfl, rfl, rfl, rfl, rfl⟩ rfl rfl rfl rfl rfl (by kernel_rfl) Tryd.func4 (by kernel_rfl)
    (of_decide_eq_true (by kernel_rfl)) (by unfold Func.isWrapper; first | (rw [if_pos (by decide +kernel)]; kernel_rfl) | (rw [if_neg (by decide +kernel)]; exact ⟨rfl, rfl⟩))
    (fun os started H enc _ F => by rw [OpenClaim.pre_eq_preRow]; exact lifted os started H enc F)
theorem plain (f : FuncId) (fn : Func) (hf : Tryd.pinned.checked.prog.funcNamed "loop.example/wholenet/laws.FnExactMeetIn" = some f) (hfn : Tryd.pinned.checked.prog.funcs[f]? = some fn) :
    false = Tryd.pinned.checked.prog.looks [] ∧ ∀ (j : Nat) t, fn.params[j]? = some t → Tryd.pinned.checked.prog.wantsStandIn t = false := by
  obtain rfl : f = 4 := Option.some.inj ((show Tryd.prog.funcNamed "loop.example/wholenet/laws.FnExactMeetIn" = some 4 by kernel_rfl).symm.trans hf) |>.symm
  obtain rfl : fn = Tryd.f4 := (Option.some.inj (Tryd.func4.symm.trans hfn)).symm
  refine ⟨by kernel_rfl, fun j t ht => ?_⟩
  rw [Tryd.params4] at ht
  have hm : t = 39 ∨ t = 3 := by simpa using Array.mem_of_getElem? ht
  rcases hm with rfl | rfl
  · exact (show Tryd.prog.wantsStandIn 39 = false by kernel_rfl)
  · exact (show Tryd.prog.wantsStandIn 3 = false by kernel_rfl)
end fnExactMeetInCard
theorem fnExactMeetIn_card : Rows.FnExactMeetInCardSaid :=
  Claim7.holds_tied_plain_at .later [] _ _ _ _ fnExactMeetInCard.said (fun _ h => by cases h) (by kernel_rfl) (fun _ h => by cases h) fnExactMeetIn_row_tie rfl ⟨rfl, rfl⟩ (by kernel_rfl) rfl fnExactMeetInCard.plain (by kernel_rfl)
end Go.Proofs.YtiokieancjigeaaDoor
