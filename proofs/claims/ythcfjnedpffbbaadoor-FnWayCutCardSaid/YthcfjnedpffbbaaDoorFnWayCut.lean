/-
  FnWayCut: what is cut from a way is a way. The table of steps holds what the program text lays (tied).
-/
import Derived.Test.YthcfjnedpffbbaaDoorDrawFabB
import Derived.Test.YthcfjnedpffbbaaDoorImp16g
import Derived.Test.YthcfjnedpffbbaaDoorFabTie
import Derived.Test.YthcfjnedpffbbaaDoorShut
import Derived.Test.YthcfjnedpffbbaaDoorCards
import Derived.Test.YthcfjnedpffbbaaDoorTie
import Derived.Deep.DeepHandedRow
import Derived.OpenVars
namespace Go.Proofs.YthcfjnedpffbbaaDoor
open Go.RowKit Go.ChangeShapes Go.WideShapes Go.ChangeAt

set_option maxRecDepth 100000 in
set_option maxHeartbeats 8000000 in
theorem walk_FnWayCut {A : Option Addr} {n c : Nat} {zs : List Int} {w : World} (hT : StepsIn w) (h : Has w A n (ints .u8 zs)) (hwf : ∀ z ∈ zs, (Lit.int .u8 z).wf = true) (hc : n ≤ c ∧ c ≤ maxLen) :
    Calls Tryd.prog 5 #[.slice A n c] w fun e w' => e = .returned (.bool true) ∧ Below w.heap.size w w' := by
  have hu : U8s zs := fun z hz => u8_of_wf (hwf z hz)
  clear hwf
  by_cases hn : n ≤ 1048576
  rotate_left
  · go_enter Tryd.func5, Tryd.ntmps5
    go_wp2
    go_ret
    exact ⟨rfl, Below.refl _ _⟩
  go_enter Tryd.func5, Tryd.ntmps5
  go_wp2_with (fail)
  refine (drawWayValid_any h hu hc).mono ?_
  rintro e w1 hX
  unfold DrawnWay at hX
  obtain ⟨a, b, A2, n2, c2, ks, rfl, O1, hn1, hn10, _, _, B1⟩ := hX
  have T1 := hT.bel B1
  have hcap := O1.cap
  obtain ⟨g, rfl, hg0, hg1⟩ := O1.head (by omega)
  have HL := Lib.hid O1.has.len
  obtain ⟨v, hv⟩ : ∃ v, decide (WayOk a b ks) = v := ⟨_, rfl⟩
  have CI := Lib.hid (implWayValid_b (c := c2) T1 O1.has (by omega) hv)
  have HV := Lib.hid hv
  clear h hu hc hv
  go_wp2_with (fail)
  refine (CI.out).mono ?_
  rintro e w2 ⟨rfl, B2⟩
  have C2 := bel_trans B1 B2
  have T2 := T1.bel B2
  have O2 := O1.bel B2
  have CS := Lib.hid (specWayValid_b (c := c2) O2.has (by omega) HV.out)
  clear CI
  go_wp2_with (fail)
  refine (CS.out).mono ?_
  rintro e w3 ⟨rfl, B3⟩
  have C3 := bel_trans C2 B3
  have T3 := T2.bel B3
  have O3 := O2.bel B3
  clear CS
  have eN : (v != v) = false := by simp
  have eE : (v == v) = true := by simp
  cases v
  · have CS := Lib.hid (specWayValid_b (c := c2) O3.has (by omega) HV.out)
    go_wp2_with (fail)
    refine CS.out.mono ?_
    rintro e w4 ⟨rfl, B4⟩
    go_wp2
    go_ret
    exact ⟨rfl, bel_trans C3 B4⟩
  have HOK := Lib.hid (of_decide_eq_true HV.out)
  clear HV eN eE
  go_wp2
  go_loopw [39] (fun t wr => ∃ k : Nat, k ≤ n2 ∧ t = .int .i64 (k : Int) ∧ Below w3.heap.size w3 wr) (fun t _ => n2 - (intOf t).toNat)
  case atStart => exact ⟨0, Nat.zero_le _, rfl, Below.refl _ _⟩
  case round =>
    obtain ⟨k, hk, rfl, B⟩ := hrel
    by_cases hlt : k < n2
    · have hltB : decide ((k : Int) < (n2 : Int)) = true := by simp; omega
      have hH := (O3.bel B).has
      have H1 : Has wr (some ⟨g, k, none⟩) (n2 - k) (ints .i64 (ks.drop k)) := by
        have := hH.from16 (d := k) (by omega)
        rwa [Nat.zero_add] at this
      have CV1 := Lib.hid (implWayValid_b (c := c2 - k) (T3.bel B) H1 (by omega) (decide_eq_true (way_drop HOK.out (d := k) (by have := HL.out; omega))))
      have k0 : (0 : Int) ≤ (k : Int) := by omega
      have k1 : (k : Int) ≤ (n2 : Int) := by omega
      have k2 : (n2 : Int) ≤ (c2 : Int) := by omega
      have k3 : (k : Int) ≤ (c2 : Int) := by omega
      have t1 : IntKind.i64.wrap ((k : Int) + 1) = (k : Int) + 1 := IntWalk.i64_in _ (by omega)
      have k4 : (0 : Int) ≤ (k : Int) + 1 := by omega
      have k5 : (k : Int) + 1 ≤ (c2 : Int) := by omega
      have n1 : ((k : Int) + 1).toNat = k + 1 := by omega
      have kn : k ≤ n2 := hk
      have kc : k ≤ c2 := by omega
      have kc1 : k + 1 ≤ c2 := by omega
      clear H1
      go_wp2_with (fail)
      refine CV1.out.mono ?_
      rintro e w5 ⟨rfl, B5⟩
      have B6 := bel_trans B B5
      have CV2 := Lib.hid (implWayValid_b (c := c2) (T3.bel B6) ((O3.bel B6).has.to16 (k := k + 1) (by omega)) (by omega) (decide_eq_true (way_take HOK.out (d := k) (by have := HL.out; omega))))
      clear CV1 hH
      go_wp2_with (fail)
      refine CV2.out.mono ?_
      rintro e w7 ⟨rfl, B7⟩
      clear CV2
      go_wp2
      go_roundw
      case rel => exact ⟨k + 1, by omega, by go_num, bel_trans B6 B7⟩
      case measure => simp [intOf]; omega
    · have hltB : decide ((k : Int) < (n2 : Int)) = false := by simp; omega
      go_wp2
      go_ret
      exact ⟨rfl, bel_trans C3 B⟩
namespace fnWayCutCard
noncomputable def laidWorld (os : Os) : World :=
  { World.holding Tryd.prog os ⟨#[], #[], []⟩ with heap := ((World.holding Tryd.prog os ⟨#[], #[], []⟩).heap.modify 0 (fun | .cells _ t frozen => .cells stepCells t frozen | o => o)) }
theorem laid_met (os : Os) : laidMet Tryd.prog Rows.fnWayCutRow.laid ((laidWorld os).forCall (fun _ _ => 0) ⟨#[], #[.slice none 0 0], []⟩).memory :=
  laidMet_of_run' 8 (by kernel_rfl) (by kernel_rfl)
theorem reads (os : Os) {H : Type} (enc : TypeId × Value → H) : ∃ places, DataW.whole enc Tryd.prog ((laidWorld os).forCall (fun _ _ => 0) ⟨#[], #[.slice none 0 0], []⟩).memory Tryd.f5.params.toList Rows.fnWayCutSpec.vars false (#[.slice none 0 0] : Array Value).toList 8 = some ([.nil], [Rows.laid_loop_example_wholenet_impl_wireSteps], places) :=
  ⟨MemPlace.row ⟨0, 0, none⟩ 8, by kernel_rfl⟩
set_option maxRecDepth 100000 in
theorem lifted (os : Os) (started : os.Started) (H : Type) (enc : TypeId × Value → H) (F : Stop.Interp) :
    ReturnsInHanded {} Tryd.checked os 5 .any ((OpenSpec.ofChange Rows.fnWayCutSpec).preRow enc Tryd.prog Tryd.f5 Rows.fnWayCutRow.domain false Rows.fnWayCutRow.laid) (((OpenSpec.ofChange Rows.fnWayCutSpec).at F).post enc Tryd.prog Tryd.f5 false true false false) := by
  obtain ⟨places, hx⟩ := reads os enc
  refine returnsInHanded_of_row (C := Tryd.checked) (s := OpenSpec.ofChange Rows.fnWayCutSpec) (by kernel_rfl) started (by kernel_rfl) Tryd.func5
    (witness_row_at (enc := enc) (C := Tryd.checked) false (laidWorld os) #[.slice none 0 0] rfl (by kernel_rfl) (by kernel_rfl) (by kernel_rfl)
      (OpenSpec.preRow_of_cond 8 hx (by kernel_rfl) (fun k hk => by cases hk) (by kernel_rfl) (laid_met os))) ?_
  intro W base args ds gs before hval0 hW _ _ _ hL _ _
  have hval : ∀ (j : Nat) t v, Tryd.f5.params[j]? = some t → args[j]? = some v → Value.okWide Tryd.prog W .any base t v := hval0
  have hW' := hW
  obtain ⟨p, q, hA0, hV0, rfl, hfz, hnd⟩ := hW
  have hV : DataW.TrodVars enc Tryd.prog W (fun _ => true) ["loop.example/wholenet/impl.wireSteps"] gs q := hV0
  have hA : DataW.TrodAll enc Tryd.prog W 0 (fun _ => true) true Tryd.f5.params.toList args.toList ds p := hA0
  rw [Tryd.params5] at hA hval
  obtain ⟨v0, vs0, d0, ds0, p0, q0, hargs, rfl, rfl, h0, r0⟩ := trodAll_cons hA
  obtain ⟨rfl, rfl, rfl⟩ := trodAll_nil r0
  obtain rfl : args = #[v0] := by cases args; simp_all
  obtain ⟨_, _, _, _, e0, _, rfl, _⟩ := trodVars_one hV
  have Tsteps := steps_of (rest := []) hL
  obtain ⟨a0, len0, cap0, rfl⟩ := okWide_slice Tryd.underlying22 (hval 0 22 v0 rfl rfl)
  have k0 := h0
  have lt0 : ∀ x ∈ p0, x.block < W.heap.size := by obtain ⟨m, hm⟩ := k0; exact DataW.trod_lt m _ _ _ hm
  obtain ⟨z0, H0, U0, M0⟩ := has_of_trod (k := .u8) Tryd.underlying22 Tryd.underlying5 (by kernel_rfl) h0
  clear hA0 hval0
  refine (walk_FnWayCut Tsteps H0 U0 M0).mono fun e W' ⟨he, bel⟩ => ?_
  subst he
  exact ⟨_, rfl, _, _, _, [], _, _, hW', trodAll_mk1 (shut_bool Tryd.underlying4 _), (trodAll_cons_mk (Below.trod (by kernel_rfl) (by kernel_rfl) (of_decide_eq_true (by kernel_rfl)) k0 bel lt0) trodAll_mk0), Below.trodVars (by kernel_rfl) bel (by kernel_rfl) hV, bel.frame _, fun h => by cases h⟩
theorem said : Rows.FnWayCutSaid :=
  OpenClaim.holds_of_cond 5 Tryd.f5 rfl rfl rfl rfl rfl rfl rfl ⟨rfl, rfl, rfl, rfl, rfl⟩ rfl rfl rfl rfl rfl (by kernel_rfl) Tryd.func5 (by kernel_rfl)
    (of_decide_eq_true (by kernel_rfl)) (by unfold Func.isWrapper; first | (rw [if_pos (by decide +kernel)]; kernel_rfl) | (rw [if_neg (by decide +kernel)]; exact ⟨rfl, rfl⟩))
    (fun os started H enc _ F => by rw [OpenClaim.pre_eq_preRow]; exact lifted os started H enc F)
theorem plain (f : FuncId) (fn : Func) (hf : Tryd.pinned.checked.prog.funcNamed "loop.example/wholenet/laws.FnWayCut" = some f) (hfn : Tryd.pinned.checked.prog.funcs[f]? = some fn) :
    false = Tryd.pinned.checked.prog.looks [] ∧ ∀ (j : Nat) t, fn.params[j]? = some t → Tryd.pinned.checked.prog.wantsStandIn t = false := by
  obtain rfl : f = 5 := Option.some.inj ((show Tryd.prog.funcNamed "loop.example/wholenet/laws.FnWayCut" = some 5 by kernel_rfl).symm.trans hf) |>.symm
  obtain rfl : fn = Tryd.f5 := (Option.some.inj (Tryd.func5.symm.trans hfn)).symm
  refine ⟨by kernel_rfl, fun j t ht => ?_⟩
  rw [Tryd.params5] at ht
  obtain rfl : t = 22 := by simpa using Array.mem_of_getElem? ht
  exact (show Tryd.prog.wantsStandIn 22 = false by kernel_rfl)
end fnWayCutCard
theorem fnWayCut_card : Rows.FnWayCutCardSaid :=
  Claim7.holds_tied_plain_at .later [] _ _ _ _ fnWayCutCard.said (fun _ h => by cases h) (by kernel_rfl) (fun _ h => by cases h) fnWayCut_row_tie rfl ⟨rfl, rfl⟩ (by kernel_rfl) rfl fnWayCutCard.plain (by kernel_rfl)
end Go.Proofs.YthcfjnedpffbbaaDoor
