/-
  FnNibbleFar: for every slice of bytes the law returns true and writes nothing that was there; the tables hold what the program's text lays (tied).
-/
import Derived.Test.YtofbjpcmiohhpaaDoorNib
import Derived.Test.YtofbjpcmiohhpaaDoorDraw1
import Derived.Test.YtofbjpcmiohhpaaDoorCards
import Derived.Test.YtofbjpcmiohhpaaDoorTie
import Derived.Deep.DeepHandedRow
import Derived.OpenVars
namespace Go.Proofs.YtofbjpcmiohhpaaDoor
open Go.RowKit Go.ChangeShapes Go.WideShapes Go.ChangeAt

set_option maxHeartbeats 1000000 in
theorem drawDecodeNibble_any {A : Option Addr} {n c : Nat} {zs : List Int} {w : World} (h : Has w A n (ints .u8 zs)) (hu : U8s zs) (hc : n ≤ c ∧ c ≤ maxLen) :
    Calls Tryd.prog 15 #[.slice A n c] w fun e w' => ∃ v, e = .returned (.int .i64 v) ∧ -1 ≤ v ∧ v ≤ 129 ∧ Below w.heap.size w w' := by
  go_enter Tryd.func15, Tryd.ntmps15
  go_wp2_with (fail)
  refine (open_any h hu hc).mono ?_
  rintro e w1 ⟨r, rfl, R1, B1⟩
  go_wp2_with (fail)
  refine (pick_any R1 (by omega) (by omega)).mono ?_
  rintro e w2 ⟨v, rfl, hv, R2, G2⟩
  obtain ⟨v0, v1⟩ := hv
  have v2 : v ≤ 130 := by omega
  clear v1
  go_wp2
  go_ret
  exact ⟨_, rfl, by omega, by omega, bel_read B1 R1 G2⟩

/-- How many of the lowest j bits are set. -/
def popTo (x : Int) (j : Nat) : Int := ((List.range j).map fun i => x / 2 ^ i % 2).sum
theorem popTo_succ (x : Int) (j : Nat) : popTo x (j + 1) = popTo x j + x / 2 ^ j % 2 := by simp [popTo, List.range_succ]
theorem popTo_b (x : Int) (j : Nat) (h : j ≤ 7) : 0 ≤ popTo x j ∧ popTo x j ≤ 7 := by
  have h1 := sum01 ((List.range j).map fun i => x / 2 ^ i % 2) (fun b hb => by
    simp only [List.mem_map] at hb
    obtain ⟨i, _, rfl⟩ := hb
    omega)
  simp only [List.length_map, List.length_range] at h1
  unfold popTo
  omega
theorem far (k g : Int) (hk0 : 0 ≤ k) (hk1 : k ≤ 15) (hg0 : 0 ≤ g) (hg1 : g ≤ 15) : (0 ≤ bits .xor .i64 (encN k) (encN g) ∧ bits .xor .i64 (encN k) (encN g) ≤ 127) ∧ (k ≠ g → 3 ≤ popTo (bits .xor .i64 (encN k) (encN g)) 7) ∧ (k = g → popTo (bits .xor .i64 (encN k) (encN g)) 7 = 0) := by
  have q : ∀ k g : Fin 16, (0 ≤ bits .xor .i64 (encN (k.val : Int)) (encN (g.val : Int)) ∧ bits .xor .i64 (encN (k.val : Int)) (encN (g.val : Int)) ≤ 127) ∧ ((k.val : Int) ≠ (g.val : Int) → 3 ≤ popTo (bits .xor .i64 (encN (k.val : Int)) (encN (g.val : Int))) 7) ∧ ((k.val : Int) = (g.val : Int) → popTo (bits .xor .i64 (encN (k.val : Int)) (encN (g.val : Int))) 7 = 0) := by decide +kernel
  have h2 := q ⟨k.toNat, by omega⟩ ⟨g.toNat, by omega⟩
  rwa [show ((k.toNat : Nat) : Int) = k by omega, show ((g.toNat : Nat) : Int) = g by omega] at h2
theorem dec_facts (n : Int) (h0 : 0 ≤ n) (h1 : n ≤ 127) : 0 ≤ decN n ∧ decN n ≤ 15 ∧ 0 ≤ decAt n ∧ (encN (decN n) == n) = (decAt n == 0) := by
  have q : ∀ n : Fin 128, 0 ≤ decN (n.val : Int) ∧ decN (n.val : Int) ≤ 15 ∧ 0 ≤ decAt (n.val : Int) ∧ (encN (decN (n.val : Int)) == (n.val : Int)) = (decAt (n.val : Int) == 0) := by decide +kernel
  have h2 := q ⟨n.toNat, by omega⟩
  rwa [show ((n.toNat : Nat) : Int) = n by omega] at h2

set_option maxHeartbeats 4000000 in
set_option maxRecDepth 100000 in
theorem walk_FnNibbleFar {A0 : Option Addr} {n0 c0 : Nat} {zs0 : List Int} {w : World} (hC : CodesIn w) (hR : RowsIn w) (h0 : Has w A0 n0 (ints .u8 zs0)) (hwf0 : ∀ z ∈ zs0, (Lit.int .u8 z).wf = true) (hc0 : n0 ≤ c0 ∧ c0 ≤ maxLen) :
    Calls Tryd.prog 4 #[.slice A0 n0 c0] w fun e w' => e = .returned (.bool true) ∧ Below w.heap.size w w' := by
  have hu0 : U8s zs0 := fun z hz => u8_of_wf (hwf0 z hz)
  clear hwf0
  by_cases hn0 : n0 ≤ 1048576
  · go_enter Tryd.func4, Tryd.ntmps4
    go_wp2_with (fail)
    refine (drawDecodeNibble_any h0 hu0 hc0).mono ?_
    rintro e w1 ⟨n, rfl, hn1, hn2, B1⟩
    replace hC := hC.bel B1
    replace hR := hR.bel B1
    have hb : -9223372036854775808 ≤ n ∧ n ≤ 9223372036854775807 := by omega
    go_wp2_with (fail)
    refine (implDecodeNibble_any hR hb).mono ?_
    rintro e w2 ⟨rfl, rfl⟩
    go_wp2_with (fail)
    refine (specDecodeNibble_any hb).mono ?_
    rintro e w2 ⟨rfl, rfl⟩
    by_cases hr : 0 ≤ n ∧ n ≤ 127
    · obtain ⟨g0, g1, a0, hfin⟩ := dec_facts n hr.1 hr.2
      have HF := Lib.hid hfin
      clear hfin hr
      generalize decN n = g at *
      generalize decAt n = t at *
      have tB : decide (t < 0) = false := by simp; omega
      have gb : -9223372036854775808 ≤ g ∧ g ≤ 9223372036854775807 := by omega
      go_wp2_with (fail)
      refine (implEncodeNibble_any hC gb).mono ?_
      rintro e w2 ⟨rfl, rfl⟩
      go_wp2
      go_loop [54] (fun i => ∃ k : Nat, k ≤ 16 ∧ i = .int .i64 k) (fun i => 16 - (intOf i).toNat)
      case atStart => exact ⟨0, by omega, rfl⟩
      case round =>
        obtain ⟨k, hk, rfl⟩ := hrel
        by_cases hlt : k < 16
        · obtain ⟨⟨x0, x1⟩, x2, x3⟩ := far (k : Int) g (by omega) (by omega) g0 g1
          have X2 := Lib.hid x2
          have X3 := Lib.hid x3
          have kb : -9223372036854775808 ≤ (k : Int) ∧ (k : Int) ≤ 9223372036854775807 := by omega
          have hltB : decide ((k : Int) < 16) = true := by simp; omega
          clear x2 x3
          go_wp2_with (fail)
          refine (implEncodeNibble_any hC kb).mono ?_
          rintro e w3 ⟨rfl, rfl⟩
          go_wp2
          generalize bits .xor .i64 (encN (k : Int)) (encN g) = x at *
          go_loop [11, 61] (fun s i => ∃ j : Nat, j ≤ 7 ∧ i = .int .i64 j ∧ s = .int .i64 (popTo x j)) (fun _ i => 7 - (intOf i).toNat)
          case atStart => exact ⟨0, by omega, rfl, rfl⟩
          case round =>
            obtain ⟨j, hj, rfl, rfl⟩ := hrel
            obtain ⟨p0, p1⟩ := popTo_b x j hj
            by_cases hj7 : j < 7
            · have d0 : 0 ≤ x / 2 ^ j := Int.ediv_nonneg x0 (Int.pow_nonneg (by omega))
              have d1 : x / 2 ^ j ≤ 127 := Int.le_trans (Int.ediv_le_self _ x0) x1
              have HS := Lib.hid (popTo_succ x j)
              generalize popTo x j = p at *
              go_wp2
              go_round
              case rel => exact ⟨j + 1, by omega, by go_num, by rw [HS.out]⟩
              case measure => simp [intOf]; omega
            · obtain rfl : j = 7 := by omega
              generalize popTo x 7 = p at *
              by_cases hkg : (k : Int) = g
              · have q1 := X3.out hkg
                subst q1
                have q2 : ((k : Int) == g) = true := by simp [hkg]
                have q3 : ((k : Int) != g) = false := by simp [hkg]
                clear hkg
                go_wp2
                go_round
                case rel => exact ⟨k + 1, by omega, by go_num⟩
                case measure => simp [intOf]; omega
              · have q1 := X2.out hkg
                have q2 : ((k : Int) == g) = false := by simp [hkg]
                have q3 : ((k : Int) != g) = true := by simp [hkg]
                clear hkg
                go_wp2
                go_round
                case rel => exact ⟨k + 1, by omega, by go_num⟩
                case measure => simp [intOf]; omega
        · obtain rfl : k = 16 := by omega
          have hfin := HF.out
          clear hk
          go_wp2
          go_ret
          exact ⟨rfl, B1⟩
    · have he : decN n = -1 := by unfold decN; rw [if_neg hr]
      have ha : decAt n = -1 := by unfold decAt; rw [if_neg hr]
      clear hr
      go_wp2
      go_ret
      exact ⟨rfl, B1⟩
  · go_enter Tryd.func4, Tryd.ntmps4
    go_wp2
    go_ret
    exact ⟨rfl, Below.refl _ _⟩
namespace fnNibbleFarCard
noncomputable def laidWorld (os : Os) : World :=
  { World.holding Tryd.prog os ⟨#[], #[], []⟩ with heap := (((World.holding Tryd.prog os ⟨#[], #[], []⟩).heap.modify 0 (fun | .cells _ t frozen => .cells (ints .i64 codes).toArray t frozen | o => o)).modify 1 (fun | .cells _ t frozen => .cells #[.int .i64 85, .int .i64 51, .int .i64 15] t frozen | o => o)) }
theorem laid_met (os : Os) : laidMet Tryd.prog Rows.fnNibbleFarRow.laid ((laidWorld os).forCall (fun _ _ => 0) ⟨#[], #[.slice none 0 0], []⟩).memory :=
  laidMet_of_run' 8 (by kernel_rfl) (by kernel_rfl)
theorem reads (os : Os) {H : Type} (enc : TypeId × Value → H) : ∃ places, DataW.whole enc Tryd.prog ((laidWorld os).forCall (fun _ _ => 0) ⟨#[], #[.slice none 0 0], []⟩).memory Tryd.f4.params.toList Rows.fnNibbleFarSpec.vars false (#[.slice none 0 0] : Array Value).toList 8 = some ([.nil], [Rows.laid_loop_example_wholenet_impl_ruleRows, Rows.laid_loop_example_wholenet_impl_nibbleCodes], places) :=
  ⟨MemPlace.row ⟨1, 0, none⟩ 3 ++ MemPlace.row ⟨0, 0, none⟩ 16, by kernel_rfl⟩
set_option maxRecDepth 100000 in
theorem lifted (os : Os) (started : os.Started) (H : Type) (enc : TypeId × Value → H) (F : Stop.Interp) :
    ReturnsInHanded {} Tryd.checked os 4 .any ((OpenSpec.ofChange Rows.fnNibbleFarSpec).preRow enc Tryd.prog Tryd.f4 Rows.fnNibbleFarRow.domain false Rows.fnNibbleFarRow.laid) (((OpenSpec.ofChange Rows.fnNibbleFarSpec).at F).post enc Tryd.prog Tryd.f4 false true false false) := by
  obtain ⟨places, hx⟩ := reads os enc
  refine returnsInHanded_of_row (C := Tryd.checked) (s := OpenSpec.ofChange Rows.fnNibbleFarSpec) (by kernel_rfl) started (by kernel_rfl) Tryd.func4
    (witness_row_at (enc := enc) (C := Tryd.checked) false (laidWorld os) #[.slice none 0 0] rfl (by kernel_rfl) (by kernel_rfl) (by kernel_rfl)
      (OpenSpec.preRow_of_cond 8 hx (by kernel_rfl) (fun k hk => by cases hk) (by kernel_rfl) (laid_met os))) ?_
  intro W base args ds gs before hval0 hW _ _ _ hL _ _
  have hval : ∀ (j : Nat) t v, Tryd.f4.params[j]? = some t → args[j]? = some v → Value.okWide Tryd.prog W .any base t v := hval0
  have hW' := hW
  obtain ⟨p, q, hA0, hV0, rfl, hfz, hnd⟩ := hW
  have hV : DataW.TrodVars enc Tryd.prog W (fun _ => true) ["loop.example/wholenet/impl.ruleRows", "loop.example/wholenet/impl.nibbleCodes"] gs q := hV0
  have hA : DataW.TrodAll enc Tryd.prog W 0 (fun _ => true) true Tryd.f4.params.toList args.toList ds p := hA0
  rw [Tryd.params4] at hA hval
  obtain ⟨v0, vs0, d0, ds0, p0, q0, hargs, rfl, rfl, h0, r0⟩ := trodAll_cons hA
  obtain ⟨rfl, rfl, rfl⟩ := trodAll_nil r0
  obtain rfl : args = #[v0] := by cases args; simp_all
  obtain ⟨_, _, _, _, e0, _, _, _, _, _, e1, _, rfl, _⟩ := trodVars_two hV
  have Tcodes := codes_of (rest := [("loop.example/wholenet/impl.ruleRows", Rows.laid_loop_example_wholenet_impl_ruleRows)]) hL
  have Trows := rows_of (rest := []) (laidMet.filter (fun x => x.1 == "loop.example/wholenet/impl.ruleRows") (show laidMet Tryd.prog [("loop.example/wholenet/impl.nibbleCodes", Rows.laid_loop_example_wholenet_impl_nibbleCodes), ("loop.example/wholenet/impl.ruleRows", Rows.laid_loop_example_wholenet_impl_ruleRows)] W from hL))
  obtain ⟨a0, len0, cap0, rfl⟩ := okWide_slice Tryd.underlying22 (hval 0 22 v0 rfl rfl)
  have k0 := h0
  have lt0 : ∀ x ∈ p0, x.block < W.heap.size := by obtain ⟨m, hm⟩ := k0; exact DataW.trod_lt m _ _ _ hm
  obtain ⟨z0, H0, U0, M0⟩ := has_of_trod (k := .u8) Tryd.underlying22 Tryd.underlying5 (by kernel_rfl) h0
  clear hA0 hval0
  refine (walk_FnNibbleFar Tcodes Trows H0 U0 M0).mono fun e W' ⟨he, bel⟩ => ?_
  subst he
  exact ⟨_, rfl, _, _, _, [], _, _, hW', trodAll_mk1 (shut_bool Tryd.underlying4 _), (trodAll_cons_mk (Below.trod (by kernel_rfl) (by kernel_rfl) (of_decide_eq_true (by kernel_rfl)) k0 bel lt0) trodAll_mk0), Below.trodVars (by kernel_rfl) bel (by kernel_rfl) hV, bel.frame _, fun h => by cases h⟩
theorem said : Rows.FnNibbleFarSaid :=
  OpenClaim.holds_of_cond 4 Tryd.f4 rfl rfl rfl rfl rfl rfl rfl ⟨rfl, rfl, rfl, rfl, rfl⟩ rfl rfl rfl rfl rfl (by kernel_rfl) Tryd.func4 (by kernel_rfl)
    (of_decide_eq_true (by kernel_rfl)) (by unfold Func.isWrapper; first | (rw [if_pos (by decide +kernel)]; kernel_rfl) | (rw [if_neg (by decide +kernel)]; exact ⟨rfl, rfl⟩))
    (fun os started H enc _ F => by rw [OpenClaim.pre_eq_preRow]; exact lifted os started H enc F)
theorem plain (f : FuncId) (fn : Func) (hf : Tryd.pinned.checked.prog.funcNamed "loop.example/wholenet/laws.FnNibbleFar" = some f) (hfn : Tryd.pinned.checked.prog.funcs[f]? = some fn) :
    false = Tryd.pinned.checked.prog.looks [] ∧ ∀ (j : Nat) t, fn.params[j]? = some t → Tryd.pinned.checked.prog.wantsStandIn t = false := by
  obtain rfl : f = 4 := Option.some.inj ((show Tryd.prog.funcNamed "loop.example/wholenet/laws.FnNibbleFar" = some 4 by kernel_rfl).symm.trans hf) |>.symm
  obtain rfl : fn = Tryd.f4 := (Option.some.inj (Tryd.func4.symm.trans hfn)).symm
  refine ⟨by kernel_rfl, fun j t ht => ?_⟩
  rw [Tryd.params4] at ht
  obtain rfl : t = 22 := by simpa using Array.mem_of_getElem? ht
  exact (show Tryd.prog.wantsStandIn 22 = false by kernel_rfl)
end fnNibbleFarCard
theorem fnNibbleFar_card : Rows.FnNibbleFarCardSaid :=
  Claim7.holds_tied_plain_at .later [] _ _ _ _ fnNibbleFarCard.said (fun _ h => by cases h) (by kernel_rfl) (fun _ h => by cases h) fnNibbleFar_row_tie rfl ⟨rfl, rfl⟩ (by kernel_rfl) rfl fnNibbleFarCard.plain (by kernel_rfl)
end Go.Proofs.YtofbjpcmiohhpaaDoor
