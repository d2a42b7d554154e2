/-
  FnExactHasRound: for every argument the exact law of HasRound returns true and writes nothing that was there; the table of steps holds what the program text lays (tied).
-/
import Derived.Test.YthcfjnedpffbbaaDoorImp16l
import Derived.Test.YthcfjnedpffbbaaDoorFabD
import Derived.Test.YthcfjnedpffbbaaDoorListArgI
import Derived.Test.YthcfjnedpffbbaaDoorListLawsI
import Derived.Test.YthcfjnedpffbbaaDoorFabTie
import Derived.Test.YthcfjnedpffbbaaDoorShut
import Derived.Test.YthcfjnedpffbbaaDoorCards
import Derived.Test.YthcfjnedpffbbaaDoorTie
import Derived.Deep.DeepHandedRow
import Derived.OpenVars
namespace Go.Proofs.YthcfjnedpffbbaaDoor
open Go.RowKit Go.ChangeShapes Go.WideShapes Go.ChangeAt

set_option maxHeartbeats 16000000 in
set_option maxRecDepth 100000 in
theorem walk_FnExactHasRound {a0 a1 : Int} {A2 : Option Addr} {n2 c2 : Nat} {cl : List (List Int)} {w : World} (hT : StepsIn w) (_ : -9223372036854775808 ≤ a0 ∧ a0 ≤ 9223372036854775807) (_ : -9223372036854775808 ≤ a1 ∧ a1 ≤ 9223372036854775807) (h2 : HasLI w A2 n2 cl) (_ : ∀ zs ∈ cl, ∀ z ∈ zs, (Lit.int .i64 z).wf = true) (hl2 : ∀ zs ∈ cl, zs.length ≤ maxLen) (hc2 : n2 ≤ c2 ∧ c2 ≤ maxLen) :
    Calls Tryd.prog 13 #[.int .i64 a0, .int .i64 a1, .slice A2 n2 c2] w fun e w' => e = .returned (.bool true) ∧ Below w.heap.size w w' := by
  have hmx2 : n2 ≤ 9223372036854775807 := by have h1 := hc2.1; have h2 := hc2.2; unfold maxLen at h2; omega
  have SY := Lib.hid (szIntSS_any (c := c2) (K := 1048576) (by omega) h2 hmx2 (fun zs hz => by have h3 := hl2 zs hz; unfold maxLen at h3; omega))
  have CS := Lib.hid (fun (W : World) (A : Option Addr) (n c : Nat) (h : HasLI W A n cl) (hn : n ≤ 16777216) (hl : ∀ ks ∈ cl, ks.length ≤ 16777216) => specHasRound_any (w := a0) (h := a1) (c := c) h hn hl)
  have CI := Lib.hid (fun (W : World) (hT : StepsIn W) (A : Option Addr) (n c : Nat) (h : HasLI W A n cl) (hn : n ≤ 16777216) (hl : ∀ ks ∈ cl, ks.length ≤ 16777216) => implHasRound_any (w := a0) (h := a1) (c := c) hT h hn hl)
  generalize (WaysOk a0 a1 cl ∧ Round (Waits (wiresAll a0.toNat cl))) = PR at *
  go_enter Tryd.func13, Tryd.ntmps13
  go_wp2_with (fail)
  refine (SY.out).mono ?_
  rintro e w' ⟨sv, rfl, hv1, hv2, hv3, rfl⟩
  by_cases hsv : sv < 0
  · have hvB : decide (sv < 0) = true := decide_eq_true hsv
    go_wp2
    go_ret
    exact ⟨rfl, Below.refl _ _⟩
  have hvB : decide (sv < 0) = false := decide_eq_false hsv
  have hv4 := hv3 (by omega)
  have hn2 : n2 ≤ 1048576 := by omega
  have hs2 : sumLenI cl ≤ 1048576 := by omega
  have L4 := Lib.hid (show ∀ zs ∈ cl, zs.length ≤ 16777216 from fun zs hz => by have := len_le_sumI cl zs hz; omega)
  clear hsv hv3 hl2
  go_wp2_with (fail)
  refine (toIntSS_any (h2.bel (Below.refl _ _)) (by omega) L4.out).mono ?_
  rintro e w1 ⟨gQ, rfl, ⟨vQ, Q⟩, B1⟩
  have S1 : w.heap.size ≤ w1.heap.size := B1.size
  have C1 := B1
  have bQ : ∀ i, InL (some ⟨gQ, 0, none⟩ : Option Addr) vQ i → w.heap.size ≤ i ∧ i < w1.heap.size := fun i hi => Q.bounds hi
  go_wp2_with (fail)
  refine (CS.out _ _ _ _ Q.has (by omega) L4.out).mono ?_
  rintro e w2 ⟨b1, rfl, e1, B2⟩
  have S2 : w1.heap.size ≤ w2.heap.size := B2.size
  have C2 := bel_trans C1 B2
  have Q_2 := Q.bel B2
  go_wp2_with (fail)
  refine (toIntSS_any (h2.bel C2) (by omega) L4.out).mono ?_
  rintro e w3 ⟨gV, rfl, ⟨vV, V⟩, B3⟩
  have S3 : w2.heap.size ≤ w3.heap.size := B3.size
  have C3 := bel_trans C2 B3
  have bV : ∀ i, InL (some ⟨gV, 0, none⟩ : Option Addr) vV i → w2.heap.size ≤ i ∧ i < w3.heap.size := fun i hi => V.bounds hi
  go_wp2_with (fail)
  refine (CI.out _ (hT.bel C3) _ _ _ V.has (by omega) L4.out).mono ?_
  rintro e w4 ⟨b2, rfl, e2, B4⟩
  have S4 : w3.heap.size ≤ w4.heap.size := B4.size
  have C4 := bel_trans C3 B4
  have V_4 := V.bel B4
  obtain rfl : b2 = b1 := by rw [Bool.eq_iff_iff, e1, e2]
  have eB : (b2 != b2) = false := by simp
  clear e1 e2
  go_wp2_with (fail)
  refine (toIntSS_any (h2.bel C4) (by omega) L4.out).mono ?_
  rintro e w5 ⟨gU, rfl, ⟨vU, U⟩, B5⟩
  have S5 : w4.heap.size ≤ w5.heap.size := B5.size
  have C5 := bel_trans C4 B5
  have V_5 := V_4.bel B5
  have bU : ∀ i, InL (some ⟨gU, 0, none⟩ : Option Addr) vU i → w4.heap.size ≤ i ∧ i < w5.heap.size := fun i hi => U.bounds hi
  go_wp2_with (fail)
  refine (eqIntSS_b V_5.has U.has (by omega) L4.out).mono ?_
  rintro e w6 ⟨rfl, B6⟩
  have S6 : w5.heap.size ≤ w6.heap.size := B6.size
  have C6 := bel_trans C5 B6
  have V_6 := V_5.bel B6
  have U_6 := U.bel B6
  go_wp2
  go_ret
  exact ⟨rfl, C6⟩
namespace fnExactHasRoundCard
noncomputable def laidWorld (os : Os) : World :=
  { World.holding Tryd.prog os ⟨#[], #[], []⟩ with heap := ((World.holding Tryd.prog os ⟨#[], #[], []⟩).heap.modify 0 (fun | .cells _ t frozen => .cells stepCells t frozen | o => o)) }
theorem laid_met (os : Os) : laidMet Tryd.prog Rows.fnExactHasRoundRow.laid ((laidWorld os).forCall (fun _ _ => 0) ⟨#[], #[.int .i64 0, .int .i64 0, .slice none 0 0], []⟩).memory :=
  laidMet_of_run' 8 (by kernel_rfl) (by kernel_rfl)
theorem reads (os : Os) {H : Type} (enc : TypeId × Value → H) : ∃ places, DataW.whole enc Tryd.prog ((laidWorld os).forCall (fun _ _ => 0) ⟨#[], #[.int .i64 0, .int .i64 0, .slice none 0 0], []⟩).memory Tryd.f13.params.toList Rows.fnExactHasRoundSpec.vars false (#[.int .i64 0, .int .i64 0, .slice none 0 0] : Array Value).toList 8 = some ([.lit (.int .i64 0), .lit (.int .i64 0), .nil], [Rows.laid_loop_example_wholenet_impl_wireSteps], places) :=
  ⟨MemPlace.row ⟨0, 0, none⟩ 8, by kernel_rfl⟩
set_option maxRecDepth 100000 in
theorem lifted (os : Os) (started : os.Started) (H : Type) (enc : TypeId × Value → H) (F : Stop.Interp) :
    ReturnsInHanded {} Tryd.checked os 13 .any ((OpenSpec.ofChange Rows.fnExactHasRoundSpec).preRow enc Tryd.prog Tryd.f13 Rows.fnExactHasRoundRow.domain false Rows.fnExactHasRoundRow.laid) (((OpenSpec.ofChange Rows.fnExactHasRoundSpec).at F).post enc Tryd.prog Tryd.f13 false true false false) := by
  obtain ⟨places, hx⟩ := reads os enc
  refine returnsInHanded_of_row (C := Tryd.checked) (s := OpenSpec.ofChange Rows.fnExactHasRoundSpec) (by kernel_rfl) started (by kernel_rfl) Tryd.func13
    (witness_row_at (enc := enc) (C := Tryd.checked) false (laidWorld os) #[.int .i64 0, .int .i64 0, .slice none 0 0] rfl (by kernel_rfl) (by kernel_rfl) (by kernel_rfl)
      (OpenSpec.preRow_of_cond 8 hx (by kernel_rfl) (fun k hk => by cases hk) (by kernel_rfl) (laid_met os))) ?_
  intro W base args ds gs before hval0 hW _ _ _ hL _ _
  have hval : ∀ (j : Nat) t v, Tryd.f13.params[j]? = some t → args[j]? = some v → Value.okWide Tryd.prog W .any base t v := hval0
  have hW' := hW
  obtain ⟨p, q, hA0, hV0, rfl, hfz, hnd⟩ := hW
  have hV : DataW.TrodVars enc Tryd.prog W (fun _ => true) ["loop.example/wholenet/impl.wireSteps"] gs q := hV0
  have hA : DataW.TrodAll enc Tryd.prog W 0 (fun _ => true) true Tryd.f13.params.toList args.toList ds p := hA0
  rw [Tryd.params13] at hA hval
  obtain ⟨v0, vs0, d0, ds0, p0, q0, hargs, rfl, rfl, h0, r0⟩ := trodAll_cons hA
  obtain ⟨v1, vs1, d1, ds1, p1, q1, rfl, rfl, rfl, h1, r1⟩ := trodAll_cons r0
  obtain ⟨v2, vs2, d2, ds2, p2, q2, rfl, rfl, rfl, h2, r2⟩ := trodAll_cons r1
  obtain ⟨rfl, rfl, rfl⟩ := trodAll_nil r2
  obtain rfl : args = #[v0, v1, v2] := by cases args; simp_all
  obtain ⟨_, _, _, _, e0, _, rfl, _⟩ := trodVars_one hV
  have Tsteps := steps_of (rest := []) hL
  obtain ⟨a0, rfl, rfl, rfl, w0⟩ := open_int Tryd.underlying3 (hval 0 3 v0 rfl rfl) h0
  have b0 := i64_of_wf w0
  obtain ⟨a1, rfl, rfl, rfl, w1⟩ := open_int Tryd.underlying3 (hval 1 3 v1 rfl rfl) h1
  have b1 := i64_of_wf w1
  obtain ⟨a2, len2, cap2, rfl⟩ := okWide_slice Tryd.underlying33 (hval 2 33 v2 rfl rfl)
  have k2 := h2
  have lt2 : ∀ x ∈ p2, x.block < W.heap.size := by obtain ⟨m, hm⟩ := k2; exact DataW.trod_lt m _ _ _ hm
  obtain ⟨z2, H2, U2, N2, M2⟩ := hasLI_of_trod Tryd.underlying33 Tryd.underlying25 Tryd.underlying3 (by kernel_rfl) (by kernel_rfl) h2
  clear hA0 hval0
  refine (walk_FnExactHasRound Tsteps b0 b1 H2 U2 N2 M2).mono fun e W' ⟨he, bel⟩ => ?_
  subst he
  exact ⟨_, rfl, _, _, _, [], _, _, hW', trodAll_mk1 (shut_bool Tryd.underlying4 _), (trodAll_cons_mk (shut_int Tryd.underlying3 w0) (trodAll_cons_mk (shut_int Tryd.underlying3 w1) (trodAll_cons_mk (Below.trod (by kernel_rfl) (by kernel_rfl) (of_decide_eq_true (by kernel_rfl)) k2 bel lt2) trodAll_mk0))), Below.trodVars (by kernel_rfl) bel (by kernel_rfl) hV, bel.frame _, fun h => by cases h⟩
theorem said : Rows.FnExactHasRoundSaid :=
  OpenClaim.holds_of_cond 13 Tryd.f13 rfl rfl rfl rfl rfl rfl rfl ⟨rfl, rfl, rfl, rfl, rfl⟩ rfl rfl rfl rfl rfl (by kernel_rfl) Tryd.func13 (by kernel_rfl)
    (of_decide_eq_true (by kernel_rfl)) (by unfold Func.isWrapper; first | (rw [if_pos (by decide +kernel)]; kernel_rfl) | (rw [if_neg (by decide +kernel)]; exact ⟨rfl, rfl⟩))
    (fun os started H enc _ F => by rw [OpenClaim.pre_eq_preRow]; exact lifted os started H enc F)
theorem plain (f : FuncId) (fn : Func) (hf : Tryd.pinned.checked.prog.funcNamed "loop.example/wholenet/laws.FnExactHasRound" = some f) (hfn : Tryd.pinned.checked.prog.funcs[f]? = some fn) :
    false = Tryd.pinned.checked.prog.looks [] ∧ ∀ (j : Nat) t, fn.params[j]? = some t → Tryd.pinned.checked.prog.wantsStandIn t = false := by
  obtain rfl : f = 13 := Option.some.inj ((show Tryd.prog.funcNamed "loop.example/wholenet/laws.FnExactHasRound" = some 13 by kernel_rfl).symm.trans hf) |>.symm
  obtain rfl : fn = Tryd.f13 := (Option.some.inj (Tryd.func13.symm.trans hfn)).symm
  refine ⟨by kernel_rfl, fun j t ht => ?_⟩
  rw [Tryd.params13] at ht
  have hm : t = 3 ∨ t = 33 := by simpa using Array.mem_of_getElem? ht
  rcases hm with rfl | rfl
  · exact (show Tryd.prog.wantsStandIn 3 = false by kernel_rfl)
  · exact (show Tryd.prog.wantsStandIn 33 = false by kernel_rfl)
end fnExactHasRoundCard
theorem fnExactHasRound_card : Rows.FnExactHasRoundCardSaid :=
  Claim7.holds_tied_plain_at .later [] _ _ _ _ fnExactHasRoundCard.said (fun _ h => by cases h) (by kernel_rfl) (fun _ h => by cases h) fnExactHasRound_row_tie rfl ⟨rfl, rfl⟩ (by kernel_rfl) rfl fnExactHasRoundCard.plain (by kernel_rfl)
end Go.Proofs.YthcfjnedpffbbaaDoor
