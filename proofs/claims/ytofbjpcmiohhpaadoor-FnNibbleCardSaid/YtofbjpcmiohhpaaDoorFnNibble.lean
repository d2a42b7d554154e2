/-
  FnNibble: for every slice of bytes the law returns true and writes nothing that was there; the tables hold what the program's text lays (tied).
-/
import Derived.Test.YtofbjpcmiohhpaaDoorNib
import Derived.Test.YtofbjpcmiohhpaaDoorDraw1
import Derived.Test.YtofbjpcmiohhpaaDoorCards
import Derived.Test.YtofbjpcmiohhpaaDoorTie
import Derived.Deep.DeepHandedRow
import Derived.OpenVars
namespace Go.Proofs.YtofbjpcmiohhpaaDoor
open Go.RowKit Go.ChangeShapes Go.WideShapes Go.ChangeAt

set_option maxHeartbeats 1000000 in
theorem drawEncodeNibble_any {A : Option Addr} {n c : Nat} {zs : List Int} {w : World} (h : Has w A n (ints .u8 zs)) (hu : U8s zs) (hc : n ≤ c ∧ c ≤ maxLen) :
    Calls Tryd.prog 11 #[.slice A n c] w fun e w' => ∃ v, e = .returned (.int .i64 v) ∧ -1 ≤ v ∧ v ≤ 16 ∧ Below w.heap.size w w' := by
  go_enter Tryd.func11, Tryd.ntmps11
  go_wp2_with (fail)
  refine (open_any h hu hc).mono ?_
  rintro e w1 ⟨r, rfl, R1, B1⟩
  go_wp2_with (fail)
  refine (pick_any R1 (by omega) (by omega)).mono ?_
  rintro e w2 ⟨v, rfl, hv, R2, G2⟩
  obtain ⟨v0, v1⟩ := hv
  have v2 : v ≤ 17 := by omega
  clear v1
  go_wp2
  go_ret
  exact ⟨_, rfl, by omega, by omega, bel_read B1 R1 G2⟩

theorem enc_dec (n : Int) (h0 : 0 ≤ n) (h1 : n ≤ 15) : 0 ≤ encN n ∧ encN n ≤ 127 ∧ decN (encN n) = n ∧ decAt (encN n) = 0 ∧ ∀ k : Nat, k < 7 → (0 ≤ bits .xor .i64 (encN n) (2 ^ k) ∧ bits .xor .i64 (encN n) (2 ^ k) ≤ 127) ∧ decN (bits .xor .i64 (encN n) (2 ^ k)) = n ∧ decAt (bits .xor .i64 (encN n) (2 ^ k)) = 7 - (k : Int) := by
  have q : ∀ n : Fin 16, 0 ≤ encN (n.val : Int) ∧ encN (n.val : Int) ≤ 127 ∧ decN (encN (n.val : Int)) = (n.val : Int) ∧ decAt (encN (n.val : Int)) = 0 ∧ ∀ k : Fin 7, (0 ≤ bits .xor .i64 (encN (n.val : Int)) (2 ^ k.val) ∧ bits .xor .i64 (encN (n.val : Int)) (2 ^ k.val) ≤ 127) ∧ decN (bits .xor .i64 (encN (n.val : Int)) (2 ^ k.val)) = (n.val : Int) ∧ decAt (bits .xor .i64 (encN (n.val : Int)) (2 ^ k.val)) = 7 - (k.val : Int) := by decide +kernel
  have h2 := q ⟨n.toNat, by omega⟩
  rw [show ((n.toNat : Nat) : Int) = n by omega] at h2
  exact ⟨h2.1, h2.2.1, h2.2.2.1, h2.2.2.2.1, fun k hk => h2.2.2.2.2 ⟨k, hk⟩⟩

set_option maxHeartbeats 2000000 in
theorem walk_FnNibble {A0 : Option Addr} {n0 c0 : Nat} {zs0 : List Int} {w : World} (hC : CodesIn w) (hR : RowsIn w) (h0 : Has w A0 n0 (ints .u8 zs0)) (hwf0 : ∀ z ∈ zs0, (Lit.int .u8 z).wf = true) (hc0 : n0 ≤ c0 ∧ c0 ≤ maxLen) :
    Calls Tryd.prog 3 #[.slice A0 n0 c0] w fun e w' => e = .returned (.bool true) ∧ Below w.heap.size w w' := by
  have hu0 : U8s zs0 := fun z hz => u8_of_wf (hwf0 z hz)
  clear hwf0
  by_cases hn0 : n0 ≤ 1048576
  · go_enter Tryd.func3, Tryd.ntmps3
    go_wp2_with (fail)
    refine (drawEncodeNibble_any h0 hu0 hc0).mono ?_
    rintro e w1 ⟨n, rfl, hn1, hn2, B1⟩
    replace hC := hC.bel B1
    replace hR := hR.bel B1
    have hb : -9223372036854775808 ≤ n ∧ n ≤ 9223372036854775807 := by omega
    go_wp2_with (fail)
    refine (implEncodeNibble_any hC hb).mono ?_
    rintro e w2 ⟨rfl, rfl⟩
    go_wp2_with (fail)
    refine (specEncodeNibble_any hb).mono ?_
    rintro e w2 ⟨rfl, rfl⟩
    by_cases hr : 0 ≤ n ∧ n ≤ 15
    · obtain ⟨e0, e1, e2, e3, e4⟩ := enc_dec n hr.1 hr.2
      have E2 := Lib.hid e2
      have E3 := Lib.hid e3
      have E4 := Lib.hid e4
      have eb : -9223372036854775808 ≤ encN n ∧ encN n ≤ 9223372036854775807 := by omega
      clear e2 e3 e4 hr
      generalize encN n = c at *
      go_wp2
      go_loop [33] (fun i => ∃ k : Nat, k ≤ 7 ∧ i = .int .i64 k) (fun i => 7 - (intOf i).toNat)
      case atStart => exact ⟨0, by omega, rfl⟩
      case round =>
        obtain ⟨k, hk, rfl⟩ := hrel
        by_cases hlt : k < 7
        · obtain ⟨⟨x0, x1⟩, x2, x3⟩ := E4.out k hlt
          have X2 := Lib.hid x2
          have X3 := Lib.hid x3
          clear x2 x3
          go_wp2_with (fail)
          rw [wrap_pow k (by omega)]
          refine (implDecodeNibble_any hR (by omega)).mono ?_
          rw [X2.out, X3.out]
          rintro e w3 ⟨rfl, rfl⟩
          go_wp2
          go_round
          case rel => exact ⟨k + 1, by omega, by go_num⟩
          case measure => simp [intOf]; omega
        · obtain rfl : k = 7 := by omega
          go_wp2_with (fail)
          refine (implDecodeNibble_any hR eb).mono ?_
          rw [E2.out, E3.out]
          rintro e w3 ⟨rfl, rfl⟩
          go_wp2
          go_ret
          exact ⟨rfl, B1⟩
    · have he : encN n = -1 := by unfold encN; rw [if_neg hr]
      clear hr
      go_wp2_with (fail)
      refine (specEncodeNibble_any hb).mono ?_
      rintro e w2 ⟨rfl, rfl⟩
      go_wp2
      go_ret
      exact ⟨rfl, B1⟩
  · go_enter Tryd.func3, Tryd.ntmps3
    go_wp2
    go_ret
    exact ⟨rfl, Below.refl _ _⟩
namespace fnNibbleCard
noncomputable def laidWorld (os : Os) : World :=
  { World.holding Tryd.prog os ⟨#[], #[], []⟩ with heap := (((World.holding Tryd.prog os ⟨#[], #[], []⟩).heap.modify 0 (fun | .cells _ t frozen => .cells (ints .i64 codes).toArray t frozen | o => o)).modify 1 (fun | .cells _ t frozen => .cells #[.int .i64 85, .int .i64 51, .int .i64 15] t frozen | o => o)) }
theorem laid_met (os : Os) : laidMet Tryd.prog Rows.fnNibbleRow.laid ((laidWorld os).forCall (fun _ _ => 0) ⟨#[], #[.slice none 0 0], []⟩).memory :=
  laidMet_of_run' 8 (by kernel_rfl) (by kernel_rfl)
theorem reads (os : Os) {H : Type} (enc : TypeId × Value → H) : ∃ places, DataW.whole enc Tryd.prog ((laidWorld os).forCall (fun _ _ => 0) ⟨#[], #[.slice none 0 0], []⟩).memory Tryd.f3.params.toList Rows.fnNibbleSpec.vars false (#[.slice none 0 0] : Array Value).toList 8 = some ([.nil], [Rows.laid_loop_example_wholenet_impl_nibbleCodes, Rows.laid_loop_example_wholenet_impl_ruleRows], places) :=
  ⟨MemPlace.row ⟨0, 0, none⟩ 16 ++ MemPlace.row ⟨1, 0, none⟩ 3, by kernel_rfl⟩
set_option maxRecDepth 100000 in
theorem lifted (os : Os) (started : os.Started) (H : Type) (enc : TypeId × Value → H) (F : Stop.Interp) :
    ReturnsInHanded {} Tryd.checked os 3 .any ((OpenSpec.ofChange Rows.fnNibbleSpec).preRow enc Tryd.prog Tryd.f3 Rows.fnNibbleRow.domain false Rows.fnNibbleRow.laid) (((OpenSpec.ofChange Rows.fnNibbleSpec).at F).post enc Tryd.prog Tryd.f3 false true false false) := by
  obtain ⟨places, hx⟩ := reads os enc
  refine returnsInHanded_of_row (C := Tryd.checked) (s := OpenSpec.ofChange Rows.fnNibbleSpec) (by kernel_rfl) started (by kernel_rfl) Tryd.func3
    (witness_row_at (enc := enc) (C := Tryd.checked) false (laidWorld os) #[.slice none 0 0] rfl (by kernel_rfl) (by kernel_rfl) (by kernel_rfl)
      (OpenSpec.preRow_of_cond 8 hx (by kernel_rfl) (fun k hk => by cases hk) (by kernel_rfl) (laid_met os))) ?_
  intro W base args ds gs before hval0 hW _ _ _ hL _ _
  have hval : ∀ (j : Nat) t v, Tryd.f3.params[j]? = some t → args[j]? = some v → Value.okWide Tryd.prog W .any base t v := hval0
  have hW' := hW
  obtain ⟨p, q, hA0, hV0, rfl, hfz, hnd⟩ := hW
  have hV : DataW.TrodVars enc Tryd.prog W (fun _ => true) ["loop.example/wholenet/impl.nibbleCodes", "loop.example/wholenet/impl.ruleRows"] gs q := hV0
  have hA : DataW.TrodAll enc Tryd.prog W 0 (fun _ => true) true Tryd.f3.params.toList args.toList ds p := hA0
  rw [Tryd.params3] at hA hval
  obtain ⟨v0, vs0, d0, ds0, p0, q0, hargs, rfl, rfl, h0, r0⟩ := trodAll_cons hA
  obtain ⟨rfl, rfl, rfl⟩ := trodAll_nil r0
  obtain rfl : args = #[v0] := by cases args; simp_all
  obtain ⟨_, _, _, _, e0, _, _, _, _, _, e1, _, rfl, _⟩ := trodVars_two hV
  have Tcodes := codes_of (rest := [("loop.example/wholenet/impl.ruleRows", Rows.laid_loop_example_wholenet_impl_ruleRows)]) hL
  have Trows := rows_of (rest := []) (laidMet.filter (fun x => x.1 == "loop.example/wholenet/impl.ruleRows") (show laidMet Tryd.prog [("loop.example/wholenet/impl.nibbleCodes", Rows.laid_loop_example_wholenet_impl_nibbleCodes), ("loop.example/wholenet/impl.ruleRows", Rows.laid_loop_example_wholenet_impl_ruleRows)] W from hL))
  obtain ⟨a0, len0, cap0, rfl⟩ := okWide_slice Tryd.underlying22 (hval 0 22 v0 rfl rfl)
  have k0 := h0
  have lt0 : ∀ x ∈ p0, x.block < W.heap.size := by obtain ⟨m, hm⟩ := k0; exact DataW.trod_lt m _ _ _ hm
  obtain ⟨z0, H0, U0, M0⟩ := has_of_trod (k := .u8) Tryd.underlying22 Tryd.underlying5 (by kernel_rfl) h0
  clear hA0 hval0
  refine (walk_FnNibble Tcodes Trows H0 U0 M0).mono fun e W' ⟨he, bel⟩ => ?_
  subst he
  exact ⟨_, rfl, _, _, _, [], _, _, hW', trodAll_mk1 (shut_bool Tryd.underlying4 _), (trodAll_cons_mk (Below.trod (by kernel_rfl) (by kernel_rfl) (of_decide_eq_true (by kernel_rfl)) k0 bel lt0) trodAll_mk0), Below.trodVars (by kernel_rfl) bel (by kernel_rfl) hV, bel.frame _, fun h => by cases h⟩
theorem said : Rows.FnNibbleSaid :=
  OpenClaim.holds_of_cond 3 Tryd.f3 rfl rfl rfl rfl rfl rfl rfl ⟨rfl, rfl, rfl, rfl, rfl⟩ rfl rfl rfl rfl rfl (by kernel_rfl) Tryd.func3 (by kernel_rfl)
    (of_decide_eq_true (by kernel_rfl)) (by unfold Func.isWrapper; first | (rw [if_pos (by decide +kernel)]; kernel_rfl) | (rw [if_neg (by decide +kernel)]; exact ⟨rfl, rfl⟩))
    (fun os started H enc _ F => by rw [OpenClaim.pre_eq_preRow]; exact lifted os started H enc F)
theorem plain (f : FuncId) (fn : Func) (hf : Tryd.pinned.checked.prog.funcNamed "loop.example/wholenet/laws.FnNibble" = some f) (hfn : Tryd.pinned.checked.prog.funcs[f]? = some fn) :
    false = Tryd.pinned.checked.prog.looks [] ∧ ∀ (j : Nat) t, fn.params[j]? = some t → Tryd.pinned.checked.prog.wantsStandIn t = false := by
  obtain rfl : f = 3 := Option.some.inj ((show Tryd.prog.funcNamed "loop.example/wholenet/laws.FnNibble" = some 3 by kernel_rfl).symm.trans hf) |>.symm
  obtain rfl : fn = Tryd.f3 := (Option.some.inj (Tryd.func3.symm.trans hfn)).symm
  refine ⟨by kernel_rfl, fun j t ht => ?_⟩
  rw [Tryd.params3] at ht
  obtain rfl : t = 22 := by simpa using Array.mem_of_getElem? ht
  exact (show Tryd.prog.wantsStandIn 22 = false by kernel_rfl)
end fnNibbleCard
theorem fnNibble_card : Rows.FnNibbleCardSaid :=
  Claim7.holds_tied_plain_at .later [] _ _ _ _ fnNibbleCard.said (fun _ h => by cases h) (by kernel_rfl) (fun _ h => by cases h) fnNibble_row_tie rfl ⟨rfl, rfl⟩ (by kernel_rfl) rfl fnNibbleCard.plain (by kernel_rfl)
end Go.Proofs.YtofbjpcmiohhpaaDoor
