/-
  FnExactWayValid: for every argument the exact law of WayValid returns true and writes nothing that was there; the table of steps holds what the program's text lays (tied).
-/
import Derived.Test.YthcfjnedpffbbaaDoorFabX
import Derived.Test.YthcfjnedpffbbaaDoorFabTie
import Derived.Test.YthcfjnedpffbbaaDoorShut
import Derived.Test.YthcfjnedpffbbaaDoorCards
import Derived.Test.YthcfjnedpffbbaaDoorTie
import Derived.Deep.DeepHandedRow
import Derived.OpenVars
namespace Go.Proofs.YthcfjnedpffbbaaDoor
open Go.RowKit Go.ChangeShapes Go.WideShapes Go.ChangeAt

set_option maxHeartbeats 2000000 in
theorem walk_FnExactWayValid {a0 : Int} {a1 : Int} {A2 : Option Addr} {n2 c2 : Nat} {zs2 : List Int} {w : World} (hStepsIn : StepsIn w) (hb0 : -9223372036854775808 ≤ a0 ∧ a0 ≤ 9223372036854775807) (hb1 : -9223372036854775808 ≤ a1 ∧ a1 ≤ 9223372036854775807) (h2 : Has w A2 n2 (ints .i64 zs2)) (hwf2 : ∀ z ∈ zs2, (Lit.int .i64 z).wf = true) (_ : n2 ≤ c2 ∧ c2 ≤ maxLen) :
    Calls Tryd.prog 10 #[.int .i64 a0, .int .i64 a1, .slice A2 n2 c2] w fun e w' => e = .returned (.bool true) ∧ Below w.heap.size w w' := by
  have hu2 : I64s zs2 := fun z hz => i64_of_wf (hwf2 z hz)
  clear hwf2
  by_cases hn2 : n2 ≤ 1048576
  rotate_left
  · go_enter Tryd.func10, Tryd.ntmps10
    go_wp2
    go_ret
    exact ⟨rfl, Below.refl _ _⟩
  have B0 : Below w.heap.size w w := Below.refl _ _
  go_enter Tryd.func10, Tryd.ntmps10
  go_wp2_with (fail)
  refine (toIntS_any (h2.bel B0) (by omega)).mono ?_
  rintro e w1 ⟨gp2, rfl, O1, B1⟩
  have S1 : w.heap.size ≤ w1.heap.size := B1.size
  have C1 := bel_trans B0 B1
  go_wp2_with (fail)
  refine (specWayValid_x hb0 hb1 O1.has hu2 (by omega)).mono ?_
  rintro e w2 ⟨rfl, B2⟩
  have S2 : w1.heap.size ≤ w2.heap.size := B2.size
  have C2 := bel_trans C1 B2
  have p2_2 := O1.bel B2
  go_wp2_with (fail)
  refine (toIntS_any (h2.bel C2) (by omega)).mono ?_
  rintro e w3 ⟨gx2, rfl, O3, B3⟩
  have S3 : w2.heap.size ≤ w3.heap.size := B3.size
  have C3 := bel_trans C2 B3
  go_wp2_with (fail)
  refine (implWayValid_x (hStepsIn.bel C3) hb0 hb1 O3.has hu2 (by omega)).mono ?_
  rintro e w4 ⟨rfl, B4⟩
  have S4 : w3.heap.size ≤ w4.heap.size := B4.size
  have C4 := bel_trans C3 B4
  have x2_4 := O3.bel B4
  go_wp2_with (fail)
  refine (toIntS_any (h2.bel C4) (by omega)).mono ?_
  rintro e w5 ⟨gy2, rfl, O5, B5⟩
  have S5 : w4.heap.size ≤ w5.heap.size := B5.size
  have C5 := bel_trans C4 B5
  have x2_5 := x2_4.bel B5
  go_wp2_with (fail)
  refine (eqIntS_b x2_5.has O5.has (by omega)).mono ?_
  rintro e w6 ⟨rfl, B6⟩
  have S6 : w5.heap.size ≤ w6.heap.size := B6.size
  have C6 := bel_trans C5 B6
  have x2_6 := x2_5.bel B6
  have y2_6 := O5.bel B6
  go_wp2
  go_ret
  exact ⟨rfl, C6⟩
namespace fnExactWayValidCard
noncomputable def laidWorld (os : Os) : World :=
  { World.holding Tryd.prog os ⟨#[], #[], []⟩ with heap := ((World.holding Tryd.prog os ⟨#[], #[], []⟩).heap.modify 0 (fun | .cells _ t frozen => .cells stepCells t frozen | o => o)) }
theorem laid_met (os : Os) : laidMet Tryd.prog Rows.fnExactWayValidRow.laid ((laidWorld os).forCall (fun _ _ => 0) ⟨#[], #[.int .i64 0, .int .i64 0, .slice none 0 0], []⟩).memory :=
  laidMet_of_run' 8 (by kernel_rfl) (by kernel_rfl)
theorem reads (os : Os) {H : Type} (enc : TypeId × Value → H) : ∃ places, DataW.whole enc Tryd.prog ((laidWorld os).forCall (fun _ _ => 0) ⟨#[], #[.int .i64 0, .int .i64 0, .slice none 0 0], []⟩).memory Tryd.f10.params.toList Rows.fnExactWayValidSpec.vars false (#[.int .i64 0, .int .i64 0, .slice none 0 0] : Array Value).toList 8 = some ([.lit (.int .i64 0), .lit (.int .i64 0), .nil], [Rows.laid_loop_example_wholenet_impl_wireSteps], places) :=
  ⟨MemPlace.row ⟨0, 0, none⟩ 8, by kernel_rfl⟩
set_option maxRecDepth 100000 in
theorem lifted (os : Os) (started : os.Started) (H : Type) (enc : TypeId × Value → H) (F : Stop.Interp) :
    ReturnsInHanded {} Tryd.checked os 10 .any ((OpenSpec.ofChange Rows.fnExactWayValidSpec).preRow enc Tryd.prog Tryd.f10 Rows.fnExactWayValidRow.domain false Rows.fnExactWayValidRow.laid) (((OpenSpec.ofChange Rows.fnExactWayValidSpec).at F).post enc Tryd.prog Tryd.f10 false true false false) := by
  obtain ⟨places, hx⟩ := reads os enc
  refine returnsInHanded_of_row (C := Tryd.checked) (s := OpenSpec.ofChange Rows.fnExactWayValidSpec) (by kernel_rfl) started (by kernel_rfl) Tryd.func10
    (witness_row_at (enc := enc) (C := Tryd.checked) false (laidWorld os) #[.int .i64 0, .int .i64 0, .slice none 0 0] rfl (by kernel_rfl) (by kernel_rfl) (by kernel_rfl)
      (OpenSpec.preRow_of_cond 8 hx (by kernel_rfl) (fun k hk => by cases hk) (by kernel_rfl) (laid_met os))) ?_
  intro W base args ds gs before hval0 hW _ _ _ hL _ _
  have hval : ∀ (j : Nat) t v, Tryd.f10.params[j]? = some t → args[j]? = some v → Value.okWide Tryd.prog W .any base t v := hval0
  have hW' := hW
  obtain ⟨p, q, hA0, hV0, rfl, hfz, hnd⟩ := hW
  have hV : DataW.TrodVars enc Tryd.prog W (fun _ => true) ["loop.example/wholenet/impl.wireSteps"] gs q := hV0
  have hA : DataW.TrodAll enc Tryd.prog W 0 (fun _ => true) true Tryd.f10.params.toList args.toList ds p := hA0
  rw [Tryd.params10] at hA hval
  obtain ⟨v0, vs0, d0, ds0, p0, q0, hargs, rfl, rfl, h0, r0⟩ := trodAll_cons hA
  obtain ⟨v1, vs1, d1, ds1, p1, q1, rfl, rfl, rfl, h1, r1⟩ := trodAll_cons r0
  obtain ⟨v2, vs2, d2, ds2, p2, q2, rfl, rfl, rfl, h2, r2⟩ := trodAll_cons r1
  obtain ⟨rfl, rfl, rfl⟩ := trodAll_nil r2
  obtain rfl : args = #[v0, v1, v2] := by cases args; simp_all
  obtain ⟨_, _, _, _, e0, _, rfl, _⟩ := trodVars_one hV
  have Tsteps := steps_of (rest := []) hL
  obtain ⟨a0, rfl, rfl, rfl, w0⟩ := open_int Tryd.underlying3 (hval 0 3 v0 rfl rfl) h0
  have b0 := i64_of_wf w0
  obtain ⟨a1, rfl, rfl, rfl, w1⟩ := open_int Tryd.underlying3 (hval 1 3 v1 rfl rfl) h1
  have b1 := i64_of_wf w1
  obtain ⟨a2, len2, cap2, rfl⟩ := okWide_slice Tryd.underlying25 (hval 2 25 v2 rfl rfl)
  have k2 := h2
  have lt2 : ∀ x ∈ p2, x.block < W.heap.size := by obtain ⟨m, hm⟩ := k2; exact DataW.trod_lt m _ _ _ hm
  obtain ⟨z2, H2, U2, M2⟩ := has_of_trod (k := .i64) Tryd.underlying25 Tryd.underlying3 (by kernel_rfl) h2
  clear hA0 hval0
  refine (walk_FnExactWayValid Tsteps b0 b1 H2 U2 M2).mono fun e W' ⟨he, bel⟩ => ?_
  subst he
  exact ⟨_, rfl, _, _, _, [], _, _, hW', trodAll_mk1 (shut_bool Tryd.underlying4 _), (trodAll_cons_mk (shut_int Tryd.underlying3 w0) (trodAll_cons_mk (shut_int Tryd.underlying3 w1) (trodAll_cons_mk (Below.trod (by kernel_rfl) (by kernel_rfl) (of_decide_eq_true (by kernel_rfl)) k2 bel lt2) trodAll_mk0))), Below.trodVars (by kernel_rfl) bel (by kernel_rfl) hV, bel.frame _, fun h => by cases h⟩
theorem said : Rows.FnExactWayValidSaid :=
  OpenClaim.holds_of_cond 10 Tryd.f10 rfl rfl rfl rfl rfl rfl rfl ⟨rfl, rfl, rfl, rfl, rfl⟩ rfl rfl rfl rfl rfl (by kernel_rfl) Tryd.func10 (by kernel_rfl)
    (of_decide_eq_true (by kernel_rfl)) (by unfold Func.isWrapper; first | (rw [if_pos (by decide +kernel)]; kernel_rfl) | (rw [if_neg (by decide +kernel)]; exact ⟨rfl, rfl⟩))
    (fun os started H enc _ F => by rw [OpenClaim.pre_eq_preRow]; exact lifted os started H enc F)
theorem plain (f : FuncId) (fn : Func) (hf : Tryd.pinned.checked.prog.funcNamed "loop.example/wholenet/laws.FnExactWayValid" = some f) (hfn : Tryd.pinned.checked.prog.funcs[f]? = some fn) :
    false = Tryd.pinned.checked.prog.looks [] ∧ ∀ (j : Nat) t, fn.params[j]? = some t → Tryd.pinned.checked.prog.wantsStandIn t = false := by
  obtain rfl : f = 10 := Option.some.inj ((show Tryd.prog.funcNamed "loop.example/wholenet/laws.FnExactWayValid" = some 10 by kernel_rfl).symm.trans hf) |>.symm
  obtain rfl : fn = Tryd.f10 := (Option.some.inj (Tryd.func10.symm.trans hfn)).symm
  refine ⟨by kernel_rfl, fun j t ht => ?_⟩
  rw [Tryd.params10] at ht
  have hm : t = 3 ∨ t = 25 := by simpa using Array.mem_of_getElem? ht
  rcases hm with rfl | rfl
  · exact (show Tryd.prog.wantsStandIn 3 = false by kernel_rfl)
  · exact (show Tryd.prog.wantsStandIn 25 = false by kernel_rfl)
end fnExactWayValidCard
theorem fnExactWayValid_card : Rows.FnExactWayValidCardSaid :=
  Claim7.holds_tied_plain_at .later [] _ _ _ _ fnExactWayValidCard.said (fun _ h => by cases h) (by kernel_rfl) (fun _ h => by cases h) fnExactWayValid_row_tie rfl ⟨rfl, rfl⟩ (by kernel_rfl) rfl fnExactWayValidCard.plain (by kernel_rfl)
end Go.Proofs.YthcfjnedpffbbaaDoor
