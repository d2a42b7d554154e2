/-
  FnWire: each wire has a number of its own, and there is one back. The table of steps holds what the program text lays (tied).
-/
import Derived.Test.YthcfjnedpffbbaaDoorDrawFab
import Derived.Test.YthcfjnedpffbbaaDoorImp16g
import Derived.Test.YthcfjnedpffbbaaDoorFabTie
import Derived.Test.YthcfjnedpffbbaaDoorShut
import Derived.Test.YthcfjnedpffbbaaDoorCards
import Derived.Test.YthcfjnedpffbbaaDoorTie
import Derived.Deep.DeepHandedRow
import Derived.OpenVars
namespace Go.Proofs.YthcfjnedpffbbaaDoor
open Go.RowKit Go.ChangeShapes Go.WideShapes Go.ChangeAt

set_option maxRecDepth 100000 in
set_option maxHeartbeats 8000000 in
theorem walk_FnWire {A : Option Addr} {n c : Nat} {zs : List Int} {w : World} (hT : StepsIn w) (h : Has w A n (ints .u8 zs)) (hwf : ∀ z ∈ zs, (Lit.int .u8 z).wf = true) (hc : n ≤ c ∧ c ≤ maxLen) :
    Calls Tryd.prog 4 #[.slice A n c] w fun e w' => e = .returned (.bool true) ∧ Below w.heap.size w w' := by
  have hu : U8s zs := fun z hz => u8_of_wf (hwf z hz)
  clear hwf
  by_cases hn : n ≤ 1048576
  rotate_left
  · go_enter Tryd.func4, Tryd.ntmps4
    go_wp2
    go_ret
    exact ⟨rfl, Below.refl _ _⟩
  go_enter Tryd.func4, Tryd.ntmps4
  go_wp2_with (fail)
  refine (drawWireOf_any h hu hc).mono ?_
  rintro e w1 hX
  unfold TwoD at hX
  obtain ⟨w0, h0, a, b, rfl, hw6, hh6, _, _, B1⟩ := hX
  have T1 := hT.bel B1
  obtain ⟨N, hN⟩ : ∃ N, wireI w0 h0 a b = N := ⟨_, rfl⟩
  have hge := wireI_ge w0 h0 a b
  rw [hN] at hge
  have CI := Lib.hid (fun (W : World) (hW : StepsIn W) => implWireOf_r (w := w0) (h := h0) (a := a) (b := b) hW hN)
  have CS := Lib.hid (fun W => specWireOf_any w0 h0 a b W)
  rw [hN] at CS
  clear h hu hc hT
  go_wp2_with (fail)
  refine (CI.out _ T1).mono ?_
  rintro e w2 ⟨rfl, B2⟩
  have C2 := bel_trans B1 B2
  have T2 := T1.bel B2
  have nE : (N != N) = false := by simp
  have nF : (N == N) = true := by simp
  by_cases hneg : N < 0
  · obtain rfl : N = -1 := by omega
    clear hneg hge hN hw6 hh6
    go_wp2_with (fail)
    refine (CS.out _).mono ?_
    rintro e w' ⟨rfl, rfl⟩
    go_wp2_with (fail)
    refine (CS.out _).mono ?_
    rintro e w' ⟨rfl, rfl⟩
    go_wp2
    go_ret
    exact ⟨rfl, C2⟩
  have nB : decide (N < 0) = false := by simp; omega
  go_wp2_with (fail)
  refine (CS.out _).mono ?_
  rintro e w' ⟨rfl, rfl⟩
  have kk : okN w0 h0 a ∧ okN w0 h0 b := by
    unfold wireI at hN
    split at hN
    · assumption
    · omega
  obtain ⟨W0, H0, n, rfl, rfl, rfl, hw, hh, _, _⟩ := spot_of kk.1
  obtain ⟨W1, H1, m, hq1, hq2, rfl, _, _, _, _⟩ := spot_of kk.2
  obtain rfl : W0 = W1 := by omega
  obtain rfl : H0 = H1 := by omega
  clear hq1 hq2
  have eW : wireI (W0 : Int) (H0 : Int) (n : Int) (m : Int) = wireW W0 n m := by unfold wireI; rw [if_pos kk]; rfl
  have eB : wireI (W0 : Int) (H0 : Int) (m : Int) (n : Int) = wireW W0 m n := by unfold wireI; rw [if_pos ⟨kk.2, kk.1⟩]; rfl
  have hp1 : 0 ≤ wireW W0 n m := by omega
  have hp2 := wireW_back hp1
  have hne := wireW_ne hp1 hp2
  have hf1 := wireW_four hp1
  have hf2 := wireW_four hp2
  have hn25 := okN_lt kk.1
  have hm25 := okN_lt kk.2
  obtain ⟨bk, hbk⟩ : ∃ bk, wireI (W0 : Int) (H0 : Int) (m : Int) (n : Int) = bk := ⟨_, rfl⟩
  have CB := Lib.hid (fun (W : World) (hW : StepsIn W) => implWireOf_r (w := (W0 : Int)) (h := (H0 : Int)) (a := (m : Int)) (b := (n : Int)) hW hbk)
  have hbr : 0 ≤ bk ∧ bk ≤ 99 ∧ bk ≠ N ∧ bk / 4 = (m : Int) ∧ N / 4 = (n : Int) ∧ N ≤ 99 := by
    have := wireI_ge (W0 : Int) (H0 : Int) (m : Int) (n : Int)
    omega
  obtain ⟨b0, b1, b2, b3, b4, b5⟩ := hbr
  have HI := Lib.hid (show ∀ c : Nat, c ≠ m → wireI (W0 : Int) (H0 : Int) (n : Int) (c : Int) ≠ N from fun c hc he => by
    unfold wireI at he
    split at he
    · rw [← hN, eW] at he
      exact hc (wireW_inj hp1 he)
    · omega)
  have HOK : Hid (WayOk (W0 : Int) (H0 : Int) [(n : Int), (m : Int), (n : Int)]) := by
    refine ⟨⟨by simp, by simp⟩, fun i hi => ?_⟩
    have hi3 : i = 0 ∨ i = 1 ∨ i = 2 := by
      have : i < 3 := hi
      omega
    rcases hi3 with rfl | rfl | rfl
    · exact ⟨kk.1, fun h => by omega⟩
    · exact ⟨kk.2, fun _ => hp1⟩
    · exact ⟨kk.1, fun _ => hp2⟩
  obtain ⟨K, hK, K0, K1⟩ := l16_mul kk.1.1
  clear hN eW eB hp1 hp2 hne hf1 hf2 hbk hneg hge kk hw6 hh6 CS CI
  go_wp2_with (fail)
  refine (CB.out _ T2).mono ?_
  rintro e w3 ⟨rfl, B3⟩
  have C3 := bel_trans C2 B3
  have T3 := T2.bel B3
  obtain ⟨KN, rfl⟩ : ∃ KN : Nat, K = KN := ⟨K.toNat, by omega⟩
  clear CB
  go_wp2
  go_loopw [55] (fun t wr => ∃ k : Nat, k ≤ KN ∧ t = .int .i64 (k : Int) ∧ Below w3.heap.size w3 wr) (fun t _ => KN - (intOf t).toNat)
  case atStart => exact ⟨0, Nat.zero_le _, rfl, Below.refl _ _⟩
  case round =>
    obtain ⟨k, hk, rfl, B⟩ := hrel
    have T4 := T3.bel B
    by_cases hlt : k < KN
    · have hltB : decide ((k : Int) < (KN : Int)) = true := by simp; omega
      by_cases hkm : k = m
      · have e1 : ((k : Int) != (m : Int)) = false := by simp; omega
        clear hkm
        go_wp2
        go_roundw
        case rel => exact ⟨k + 1, by omega, by go_num, B⟩
        case measure => simp [intOf]; omega
      · have e1 : ((k : Int) != (m : Int)) = true := by simp; omega
        obtain ⟨V, hV⟩ : ∃ V, wireI (W0 : Int) (H0 : Int) (n : Int) (k : Int) = V := ⟨_, rfl⟩
        have CK := Lib.hid (implWireOf_r T4 hV)
        have e2 : (V == N) = false := by
          have := HI.out k hkm
          rw [hV] at this
          simp [this]
        clear hV hkm
        go_wp2_with (fail)
        refine CK.out.mono ?_
        rintro e w5 ⟨rfl, B5⟩
        go_wp2
        go_roundw
        case rel => exact ⟨k + 1, by omega, by go_num, bel_trans B B5⟩
        case measure => simp [intOf]; omega
    · have hltB : decide ((k : Int) < (KN : Int)) = false := by simp; omega
      have C4 := bel_trans C3 B
      have g0 : decide (bk ≥ 0) = true := by simp; omega
      have g1 : decide (0 ≤ bk) = true := by simp; omega
      have g2 : (bk != N) = true := by simp; omega
      have t1 : N.tdiv 4 = (n : Int) := by rw [Int.tdiv_eq_ediv_of_nonneg (by omega)]; exact b4
      have t2 : bk.tdiv 4 = (m : Int) := by rw [Int.tdiv_eq_ediv_of_nonneg (by omega)]; exact b3
      have m1 : ((n : Int) == (n : Int)) = true := by simp
      have m2 : ((m : Int) == (m : Int)) = true := by simp
      have HWY : Has (wr.alloc (.cells #[.int .i64 (n : Int), .int .i64 (m : Int), .int .i64 (n : Int)] 3)) (some ⟨wr.heap.size, 0, none⟩) 3 (ints .i64 [(n : Int), (m : Int), (n : Int)]) := Has.row _ rfl rfl (by unfold maxLen; omega)
      have CW := Lib.hid (implWayValid_b (c := 3) (T4.bel (below_alloc16 wr _)) HWY (by omega) (decide_eq_true HOK.out))
      go_wp2_with (fail)
      refine CW.out.mono ?_
      rintro e w5 ⟨rfl, B5⟩
      go_wp2
      go_ret
      exact ⟨rfl, bel_trans (bel_trans C4 (below_alloc16 wr _)) B5⟩
namespace fnWireCard
noncomputable def laidWorld (os : Os) : World :=
  { World.holding Tryd.prog os ⟨#[], #[], []⟩ with heap := ((World.holding Tryd.prog os ⟨#[], #[], []⟩).heap.modify 0 (fun | .cells _ t frozen => .cells stepCells t frozen | o => o)) }
theorem laid_met (os : Os) : laidMet Tryd.prog Rows.fnWireRow.laid ((laidWorld os).forCall (fun _ _ => 0) ⟨#[], #[.slice none 0 0], []⟩).memory :=
  laidMet_of_run' 8 (by kernel_rfl) (by kernel_rfl)
theorem reads (os : Os) {H : Type} (enc : TypeId × Value → H) : ∃ places, DataW.whole enc Tryd.prog ((laidWorld os).forCall (fun _ _ => 0) ⟨#[], #[.slice none 0 0], []⟩).memory Tryd.f4.params.toList Rows.fnWireSpec.vars false (#[.slice none 0 0] : Array Value).toList 8 = some ([.nil], [Rows.laid_loop_example_wholenet_impl_wireSteps], places) :=
  ⟨MemPlace.row ⟨0, 0, none⟩ 8, by kernel_rfl⟩
set_option maxRecDepth 100000 in
theorem lifted (os : Os) (started : os.Started) (H : Type) (enc : TypeId × Value → H) (F : Stop.Interp) :
    ReturnsInHanded {} Tryd.checked os 4 .any ((OpenSpec.ofChange Rows.fnWireSpec).preRow enc Tryd.prog Tryd.f4 Rows.fnWireRow.domain false Rows.fnWireRow.laid) (((OpenSpec.ofChange Rows.fnWireSpec).at F).post enc Tryd.prog Tryd.f4 false true false false) := by
  obtain ⟨places, hx⟩ := reads os enc
  refine returnsInHanded_of_row (C := Tryd.checked) (s := OpenSpec.ofChange Rows.fnWireSpec) (by kernel_rfl) started (by kernel_rfl) Tryd.func4
    (witness_row_at (enc := enc) (C := Tryd.checked) false (laidWorld os) #[.slice none 0 0] rfl (by kernel_rfl) (by kernel_rfl) (by kernel_rfl)
      (OpenSpec.preRow_of_cond 8 hx (by kernel_rfl) (fun k hk => by cases hk) (by kernel_rfl) (laid_met os))) ?_
  intro W base args ds gs before hval0 hW _ _ _ hL _ _
  have hval : ∀ (j : Nat) t v, Tryd.f4.params[j]? = some t → args[j]? = some v → Value.okWide Tryd.prog W .any base t v := hval0
  have hW' := hW
  obtain ⟨p, q, hA0, hV0, rfl, hfz, hnd⟩ := hW
  have hV : DataW.TrodVars enc Tryd.prog W (fun _ => true) ["loop.example/wholenet/impl.wireSteps"] gs q := hV0
  have hA : DataW.TrodAll enc Tryd.prog W 0 (fun _ => true) true Tryd.f4.params.toList args.toList ds p := hA0
  rw [Tryd.params4] at hA hval
  obtain ⟨v0, vs0, d0, ds0, p0, q0, hargs, rfl, rfl, h0, r0⟩ := trodAll_cons hA
  obtain ⟨rfl, rfl, rfl⟩ := trodAll_nil r0
  obtain rfl : args = #[v0] := by cases args; simp_all
  obtain ⟨_, _, _, _, e0, _, rfl, _⟩ := trodVars_one hV
  have Tsteps := steps_of (rest := []) hL
  obtain ⟨a0, len0, cap0, rfl⟩ := okWide_slice Tryd.underlying22 (hval 0 22 v0 rfl rfl)
  have k0 := h0
  have lt0 : ∀ x ∈ p0, x.block < W.heap.size := by obtain ⟨m, hm⟩ := k0; exact DataW.trod_lt m _ _ _ hm
  obtain ⟨z0, H0, U0, M0⟩ := has_of_trod (k := .u8) Tryd.underlying22 Tryd.underlying5 (by kernel_rfl) h0
  clear hA0 hval0
  refine (walk_FnWire Tsteps H0 U0 M0).mono fun e W' ⟨he, bel⟩ => ?_
  subst he
  exact ⟨_, rfl, _, _, _, [], _, _, hW', trodAll_mk1 (shut_bool Tryd.underlying4 _), (trodAll_cons_mk (Below.trod (by kernel_rfl) (by kernel_rfl) (of_decide_eq_true (by kernel_rfl)) k0 bel lt0) trodAll_mk0), Below.trodVars (by kernel_rfl) bel (by kernel_rfl) hV, bel.frame _, fun h => by cases h⟩
theorem said : Rows.FnWireSaid :=
  OpenClaim.holds_of_cond 4 Tryd.f4 rfl rfl rfl rfl rfl rfl rfl ⟨rfl, rfl, rfl, rfl, rfl⟩ rfl rfl rfl rfl rfl (by kernel_rfl) Tryd.func4 (by kernel_rfl)
    (of_decide_eq_true (by kernel_rfl)) (by unfold Func.isWrapper; first | (rw [if_pos (by decide +kernel)]; kernel_rfl) | (rw [if_neg (by decide +kernel)]; exact ⟨rfl, rfl⟩))
    (fun os started H enc _ F => by rw [OpenClaim.pre_eq_preRow]; exact lifted os started H enc F)
theorem plain (f : FuncId) (fn : Func) (hf : Tryd.pinned.checked.prog.funcNamed "loop.example/wholenet/laws.FnWire" = some f) (hfn : Tryd.pinned.checked.prog.funcs[f]? = some fn) :
    false = Tryd.pinned.checked.prog.looks [] ∧ ∀ (j : Nat) t, fn.params[j]? = some t → Tryd.pinned.checked.prog.wantsStandIn t = false := by
  obtain rfl : f = 4 := Option.some.inj ((show Tryd.prog.funcNamed "loop.example/wholenet/laws.FnWire" = some 4 by kernel_rfl).symm.trans hf) |>.symm
  obtain rfl : fn = Tryd.f4 := (Option.some.inj (Tryd.func4.symm.trans hfn)).symm
  refine ⟨by kernel_rfl, fun j t ht => ?_⟩
  rw [Tryd.params4] at ht
  obtain rfl : t = 22 := by simpa using Array.mem_of_getElem? ht
  exact (show Tryd.prog.wantsStandIn 22 = false by kernel_rfl)
end fnWireCard
theorem fnWire_card : Rows.FnWireCardSaid :=
  Claim7.holds_tied_plain_at .later [] _ _ _ _ fnWireCard.said (fun _ h => by cases h) (by kernel_rfl) (fun _ h => by cases h) fnWire_row_tie rfl ⟨rfl, rfl⟩ (by kernel_rfl) rfl fnWireCard.plain (by kernel_rfl)
end Go.Proofs.YthcfjnedpffbbaaDoor
