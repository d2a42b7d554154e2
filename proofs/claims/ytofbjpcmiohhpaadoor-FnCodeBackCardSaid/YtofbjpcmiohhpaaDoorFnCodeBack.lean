/-
  FnCodeBack: for every slice of bytes the law returns true and writes nothing that was there; the tables hold what the program's text lays (tied).
-/
import Derived.Test.YtofbjpcmiohhpaaDoorCodeEnc
import Derived.Test.YtofbjpcmiohhpaaDoorMathCode
import Derived.Test.YtofbjpcmiohhpaaDoorDraw1
import Derived.Test.YtofbjpcmiohhpaaDoorCards
import Derived.Test.YtofbjpcmiohhpaaDoorTie
import Derived.Deep.DeepHandedRow
import Derived.Deep.RegionWith
import Derived.OpenVars
namespace Go.Proofs.YtofbjpcmiohhpaaDoor
open Go.RowKit Go.ChangeShapes Go.WideShapes Go.ChangeAt

set_option maxHeartbeats 1000000 in
theorem drawEncodeBytes_any {A : Option Addr} {n c : Nat} {zs : List Int} {w : World} (h : Has w A n (ints .u8 zs)) (hu : U8s zs) (hc : n ≤ c ∧ c ≤ maxLen) :
    Calls Tryd.prog 17 #[.slice A n c] w fun e w' => ∃ A' n' c' xs, e = .returned (.slice A' n' c') ∧ Own w' w.heap.size 5 A' n' c' (ints .u8 xs) ∧ U8s xs ∧ n' ≤ 601 ∧ Below w.heap.size w w' := by
  go_enter Tryd.func17, Tryd.ntmps17
  go_wp2_with (fail)
  refine (open_any h hu hc).mono ?_
  rintro e w1 ⟨r, rfl, R1, B1⟩
  go_wp2_with (fail)
  refine (l1Draw_any R1 (by omega)).mono ?_
  rintro e w2 ⟨A2, n2, c2, xs, p2, rfl, O2, hx, hn2, _, hp2, R2, G2⟩
  go_wp2
  go_ret
  exact ⟨_, _, _, xs, rfl, O2.mono B1.size, hx, hn2, bel_read B1 R1 G2⟩

set_option maxHeartbeats 4000000 in
set_option maxRecDepth 100000 in
theorem walk_FnCodeBack {A0 : Option Addr} {n0 c0 : Nat} {zs0 : List Int} {w : World} (hC : CodesIn w) (hR : RowsIn w) (h0 : Has w A0 n0 (ints .u8 zs0)) (hwf0 : ∀ z ∈ zs0, (Lit.int .u8 z).wf = true) (hc0 : n0 ≤ c0 ∧ c0 ≤ maxLen) :
    Calls Tryd.prog 5 #[.slice A0 n0 c0] w fun e w' => e = .returned (.bool true) ∧ Below w.heap.size w w' := by
  have hu0 : U8s zs0 := fun z hz => u8_of_wf (hwf0 z hz)
  clear hwf0
  by_cases hn0 : n0 ≤ 1048576
  · go_enter Tryd.func5, Tryd.ntmps5
    go_wp2_with (fail)
    refine (drawEncodeBytes_any h0 hu0 hc0).mono ?_
    rintro e w1 ⟨A1, n1, c1, xs, rfl, O1, hx, hn1, B1⟩
    go_wp2_with (fail)
    refine (implEncodeBytes_any (hC.bel B1) O1.has hx (by omega)).mono ?_
    rintro e w2 ⟨A2, n2, c2, rfl, O2, B2⟩
    have C2 := bel_trans B1 B2
    have X2 := O1.bel B2
    have l1 := O1.has.len
    have l2 := O2.has.len
    have s1 := run_str (dst := 9) (c := c2) (w := w2.drew) Tryd.underlying22 Tryd.underlying5 Tryd.underlying9 O2.has
    have C5 := Lib.hid (specEncodeBytes_any (c := c1) (w := w2.drew) X2.has hx (by omega))
    by_cases hd : n1 ≤ 600
    · have hdB : decide ((600 : Int) < (n1 : Int)) = false := by simp; omega
      go_wp2_with (fail)
      go_region_with (go_at_call 19; refine C5.out.mono ?_; rintro e w3 ⟨A3, n3, c3, rfl, O3, B3⟩; have s2 := run_str (dst := 9) (c := c3) Tryd.underlying22 Tryd.underlying5 Tryd.underlying9 O3.has; have s3 := run_str (dst := 9) (c := c2) (w := w3) Tryd.underlying22 Tryd.underlying5 Tryd.underlying9 (O2.has.below (Nat.le_refl _) ⟨B3.os, B3.tape, B3.output, B3.size, B3.block⟩))
      all_goals
        have B3' : Below w2.heap.size w2 w3 := ⟨B3.os, B3.tape, B3.output, B3.size, B3.block⟩
        have C3 := bel_trans C2 B3'
        have hb : encB xs = encFlat xs := by unfold encB; rw [if_pos (by omega)]
        have P3 := O2.bel B3'
        have Q3 := X2.bel B3'
        rw [hb] at P3
        have hl2 : n2 = 2 * n1 := by rw [hb, encFlat_length] at l2; omega
        obtain ⟨d1, d2⟩ := code_back xs hx (by omega)
        obtain ⟨m1, m2⟩ := code_mend xs hx (by omega) n1
        rw [l1] at m2
        have D1 := Lib.hid d1
        have D2 := Lib.hid d2
        have M1 := Lib.hid m1
        have M2 := Lib.hid m2
        have hu2 : U8s (encFlat xs) := fun z hz => by
          obtain ⟨i, hi⟩ := List.getElem?_of_mem hz
          have hil := (List.getElem?_eq_some_iff.1 hi).1
          rw [encFlat_length] at hil
          obtain ⟨b0, b1⟩ := nibAt_b xs i hx hil
          have hq := encFlat_at xs i hil
          rw [hi] at hq
          injection hq with hq
          have := encN_b _ b0 b1
          omega
        have LE := Lib.hid (encFlat_length xs)
        have L1 := Lib.hid l1
        subst hl2
        clear d1 d2 m1 m2 s1 s2 s3 hb l1 l2 O3 hdB C5
        obtain ⟨i0, hi, hz0, hz1, hz2⟩ := info_parts Tryd.infoU8
        go_wp2_with (at_builtin; refine wpList_app_has _ rfl (.tmp 35) (.tmp 36) 22 rfl w3.heap.size 5 i0 (.int .u8 0) 1 Tryd.underlying22 hi hz0 hz1 hz2 rfl (some ⟨w3.heap.size, 0, none⟩) 0 0 [] rfl (World.ownsRow_lit w3 #[] 0 (Nat.le_refl _) (by unfold maxLen; omega) rfl) A2 (2 * n1) c2 (ints .u8 (encFlat xs)) rfl (P3.has.bel ((Below.refl _ _).alloc (Nat.le_refl _) _)) (ints_oneCell _ _) (by omega) (by decide) (by simp) ?_; intro A5 c5 w5 O5 G5 B5)
        rw [Nat.zero_add, List.nil_append] at O5
        have B5' : Below w3.heap.size w3 w5 := ((Below.refl w3.heap.size w3).alloc (Nat.le_refl _) _).trans B5
        clear G5 B5
        go_loopw [40] (fun i wr => ∃ k : Nat, k ≤ 2 * n1 ∧ i = .int .i64 k ∧ Own wr w3.heap.size 5 A5 (2 * n1) c5 (ints .u8 ((flipAll (encFlat xs) n1).take k ++ (encFlat xs).drop k)) ∧ Below w3.heap.size w3 wr) (fun i _ => 2 * n1 - (intOf i).toNat)
        case atStart => exact ⟨0, Nat.zero_le _, rfl, by simpa using O5, B5'⟩
        case round =>
          obtain ⟨k, hk, rfl, hown, hb⟩ := hrel
          by_cases hlt : k < 2 * n1
          · obtain ⟨g, hA5, hg0, hg1⟩ := hown.head (by omega)
            subst hA5
            obtain ⟨u, hu1, hd1, hf1⟩ := hown.at_ (k := k) hlt
            obtain ⟨z, hz⟩ : ∃ z, (encFlat xs)[k]? = some z := ⟨_, List.getElem?_eq_getElem (show k < (encFlat xs).length by rw [LE.out, L1.out]; omega)⟩
            have hu3 : (ints .u8 ((flipAll (encFlat xs) n1).take k ++ (encFlat xs).drop k))[k]? = some (.int .u8 z) := by
              have ht : ((flipAll (encFlat xs) n1).take k).length = k := by rw [List.length_take, flipAll_length, LE.out, L1.out]; omega
              have h9 : ((flipAll (encFlat xs) n1).take k ++ (encFlat xs).drop k)[k]? = some z := by
                rw [List.getElem?_append_right (by omega), ht, Nat.sub_self, List.getElem?_drop, Nat.add_zero, hz]
              simp only [ints, List.getElem?_map, h9, Option.map_some]
            rw [hu3] at hu1
            obtain rfl : Value.int .u8 z = u := by injection hu1
            obtain ⟨z0, z1⟩ := hu2 z (List.mem_of_getElem? hz)
            have HZ := Lib.hid hz
            have HF := Lib.hid (flipAll_at (encFlat xs) n1 k z hz)
            have k0 : (0 : Int) ≤ (k : Int) := by omega
            have k1 : (k : Int) < 2 * (n1 : Int) := by omega
            clear hu1 hu3 hz
            go_wp2
            go_region
            go_wp2
            go_roundw
            case rel =>
              refine ⟨k + 1, by omega, by go_num, ?_, (hb.setCell hg0 _).trans (below_drewN _ 1)⟩
              rw [pow_byte _ (by omega), ← set_drop (flipAll (encFlat xs) n1) (encFlat xs) k (2 * n1) (by rw [flipAll_length, LE.out, L1.out]) (by rw [LE.out, L1.out]) hlt _ HF.out, ← ints_set]
              exact (hown.set_ k _).bel (below_drewN _ 1)
            case measure => simp [intOf]; omega
          · obtain rfl : k = 2 * n1 := by omega
            rw [List.take_of_length_le (by rw [flipAll_length, LE.out, L1.out]; omega), List.drop_of_length_le (by rw [LE.out, L1.out]; omega), List.append_nil] at hown
            have C4 := bel_trans C3 hb
            have hfu : U8s (flipAll (encFlat xs) n1) := fun z hz => by
              simp only [flipAll, List.mem_map, List.mem_range] at hz
              obtain ⟨i, hil, rfl⟩ := hz
              rw [LE.out] at hil
              obtain ⟨b0, b1⟩ := nibAt_b xs i hx hil
              rw [show (encFlat xs).getD i 0 = encN (nibAt xs i) by simp [List.getD, encFlat_at xs i hil]]
              have := ((enc_u8 _ b0 b1).2 ((i + n1) % 7) (by omega)).1
              omega
            have P4 := P3.bel hb
            have Q4 := Q3.bel hb
            go_wp2_with (fail)
            refine (implDecodeBytes_any (hR.bel C4) P4.has hu2 (by omega)).mono ?_
            rw [D1.out, D2.out]
            rintro e w6 ⟨A6, n6, c6, rfl, O6, B6⟩
            have C6 := bel_trans C4 B6
            go_wp2_with (fail)
            refine (implDecodeBytes_any (hR.bel C6) (hown.bel B6).has hfu (by omega)).mono ?_
            rw [M1.out, M2.out]
            rintro e w7 ⟨A7, n7, c7, rfl, O7, B7⟩
            have C7 := bel_trans C6 B7
            have t1 := run_str (dst := 9) (c := c6) Tryd.underlying22 Tryd.underlying5 Tryd.underlying9 (O6.bel B7).has
            have t2 := run_str (dst := 9) (c := c1) Tryd.underlying22 Tryd.underlying5 Tryd.underlying9 ((Q4.bel B6).bel B7).has
            have t3 := run_str (dst := 9) (c := c7) Tryd.underlying22 Tryd.underlying5 Tryd.underlying9 O7.has
            go_wp2
            go_ret
            exact ⟨rfl, C7⟩
    · have hdB : decide ((600 : Int) < (n1 : Int)) = true := by simp; omega
      go_wp2_with (fail)
      go_region_with (go_at_call 19; refine C5.out.mono ?_; rintro e w3 ⟨A3, n3, c3, rfl, O3, B3⟩; have s2 := run_str (dst := 9) (c := c3) Tryd.underlying22 Tryd.underlying5 Tryd.underlying9 O3.has; have s3 := run_str (dst := 9) (c := c2) (w := w3) Tryd.underlying22 Tryd.underlying5 Tryd.underlying9 (O2.has.below (Nat.le_refl _) ⟨B3.os, B3.tape, B3.output, B3.size, B3.block⟩))
      all_goals
        have B3' : Below w2.heap.size w2 w3 := ⟨B3.os, B3.tape, B3.output, B3.size, B3.block⟩
        have C3 := bel_trans C2 B3'
        have P3 := O2.bel B3'
        have Q3 := X2.bel B3'
        have C6 := Lib.hid (specEncodeBytes_any (c := c1) (w := w3.drew) Q3.has hx (by omega))
        have s4 := run_str (dst := 9) (c := c2) (w := w3.drew) Tryd.underlying22 Tryd.underlying5 Tryd.underlying9 P3.has
        clear s1 s2 s3 C5
        go_wp2_with (fail)
        go_region_with (go_at_call 19; refine C6.out.mono ?_; rintro e w6 ⟨A6, n6, c6, rfl, O6, B6⟩; have s5 := run_str (dst := 9) (c := c6) Tryd.underlying22 Tryd.underlying5 Tryd.underlying9 O6.has; have s6 := run_str (dst := 9) (c := c2) (w := w6) Tryd.underlying22 Tryd.underlying5 Tryd.underlying9 (P3.has.below (Nat.le_refl _) ⟨B6.os, B6.tape, B6.output, B6.size, B6.block⟩))
        all_goals
          go_wp2
          go_ret
          exact ⟨rfl, bel_trans C3 ⟨B6.os, B6.tape, B6.output, B6.size, B6.block⟩⟩
  · go_enter Tryd.func5, Tryd.ntmps5
    go_wp2
    go_ret
    exact ⟨rfl, Below.refl _ _⟩
namespace fnCodeBackCard
noncomputable def laidWorld (os : Os) : World :=
  { World.holding Tryd.prog os ⟨#[], #[], []⟩ with heap := (((World.holding Tryd.prog os ⟨#[], #[], []⟩).heap.modify 0 (fun | .cells _ t frozen => .cells (ints .i64 codes).toArray t frozen | o => o)).modify 1 (fun | .cells _ t frozen => .cells #[.int .i64 85, .int .i64 51, .int .i64 15] t frozen | o => o)) }
theorem laid_met (os : Os) : laidMet Tryd.prog Rows.fnCodeBackRow.laid ((laidWorld os).forCall (fun _ _ => 0) ⟨#[], #[.slice none 0 0], []⟩).memory :=
  laidMet_of_run' 8 (by kernel_rfl) (by kernel_rfl)
theorem reads (os : Os) {H : Type} (enc : TypeId × Value → H) : ∃ places, DataW.whole enc Tryd.prog ((laidWorld os).forCall (fun _ _ => 0) ⟨#[], #[.slice none 0 0], []⟩).memory Tryd.f5.params.toList Rows.fnCodeBackSpec.vars false (#[.slice none 0 0] : Array Value).toList 8 = some ([.nil], [Rows.laid_loop_example_wholenet_impl_nibbleCodes, Rows.laid_loop_example_wholenet_impl_ruleRows], places) :=
  ⟨MemPlace.row ⟨0, 0, none⟩ 16 ++ MemPlace.row ⟨1, 0, none⟩ 3, by kernel_rfl⟩
set_option maxRecDepth 100000 in
theorem lifted (os : Os) (started : os.Started) (H : Type) (enc : TypeId × Value → H) (F : Stop.Interp) :
    ReturnsInHanded {} Tryd.checked os 5 .any ((OpenSpec.ofChange Rows.fnCodeBackSpec).preRow enc Tryd.prog Tryd.f5 Rows.fnCodeBackRow.domain false Rows.fnCodeBackRow.laid) (((OpenSpec.ofChange Rows.fnCodeBackSpec).at F).post enc Tryd.prog Tryd.f5 false true false false) := by
  obtain ⟨places, hx⟩ := reads os enc
  refine returnsInHanded_of_row (C := Tryd.checked) (s := OpenSpec.ofChange Rows.fnCodeBackSpec) (by kernel_rfl) started (by kernel_rfl) Tryd.func5
    (witness_row_at (enc := enc) (C := Tryd.checked) false (laidWorld os) #[.slice none 0 0] rfl (by kernel_rfl) (by kernel_rfl) (by kernel_rfl)
      (OpenSpec.preRow_of_cond 8 hx (by kernel_rfl) (fun k hk => by cases hk) (by kernel_rfl) (laid_met os))) ?_
  intro W base args ds gs before hval0 hW _ _ _ hL _ _
  have hval : ∀ (j : Nat) t v, Tryd.f5.params[j]? = some t → args[j]? = some v → Value.okWide Tryd.prog W .any base t v := hval0
  have hW' := hW
  obtain ⟨p, q, hA0, hV0, rfl, hfz, hnd⟩ := hW
  have hV : DataW.TrodVars enc Tryd.prog W (fun _ => true) ["loop.example/wholenet/impl.nibbleCodes", "loop.example/wholenet/impl.ruleRows"] gs q := hV0
  have hA : DataW.TrodAll enc Tryd.prog W 0 (fun _ => true) true Tryd.f5.params.toList args.toList ds p := hA0
  rw [Tryd.params5] at hA hval
  obtain ⟨v0, vs0, d0, ds0, p0, q0, hargs, rfl, rfl, h0, r0⟩ := trodAll_cons hA
  obtain ⟨rfl, rfl, rfl⟩ := trodAll_nil r0
  obtain rfl : args = #[v0] := by cases args; simp_all
  obtain ⟨_, _, _, _, e0, _, _, _, _, _, e1, _, rfl, _⟩ := trodVars_two hV
  have Tcodes := codes_of (rest := [("loop.example/wholenet/impl.ruleRows", Rows.laid_loop_example_wholenet_impl_ruleRows)]) hL
  have Trows := rows_of (rest := []) (laidMet.filter (fun x => x.1 == "loop.example/wholenet/impl.ruleRows") (show laidMet Tryd.prog [("loop.example/wholenet/impl.nibbleCodes", Rows.laid_loop_example_wholenet_impl_nibbleCodes), ("loop.example/wholenet/impl.ruleRows", Rows.laid_loop_example_wholenet_impl_ruleRows)] W from hL))
  obtain ⟨a0, len0, cap0, rfl⟩ := okWide_slice Tryd.underlying22 (hval 0 22 v0 rfl rfl)
  have k0 := h0
  have lt0 : ∀ x ∈ p0, x.block < W.heap.size := by obtain ⟨m, hm⟩ := k0; exact DataW.trod_lt m _ _ _ hm
  obtain ⟨z0, H0, U0, M0⟩ := has_of_trod (k := .u8) Tryd.underlying22 Tryd.underlying5 (by kernel_rfl) h0
  clear hA0 hval0
  refine (walk_FnCodeBack Tcodes Trows H0 U0 M0).mono fun e W' ⟨he, bel⟩ => ?_
  subst he
  exact ⟨_, rfl, _, _, _, [], _, _, hW', trodAll_mk1 (shut_bool Tryd.underlying4 _), (trodAll_cons_mk (Below.trod (by kernel_rfl) (by kernel_rfl) (of_decide_eq_true (by kernel_rfl)) k0 bel lt0) trodAll_mk0), Below.trodVars (by kernel_rfl) bel (by kernel_rfl) hV, bel.frame _, fun h => by cases h⟩
theorem said : Rows.FnCodeBackSaid :=
  OpenClaim.holds_of_cond 5 Tryd.f5 rfl rfl rfl rfl rfl rfl rfl ⟨rfl, rfl, rfl, rfl, rfl⟩ rfl rfl rfl rfl rfl (by kernel_rfl) Tryd.func5 (by kernel_rfl)
    (of_decide_eq_true (by kernel_rfl)) (by unfold Func.isWrapper; first | (rw [if_pos (by decide +kernel)]; kernel_rfl) | (rw [if_neg (by decide +kernel)]; exact ⟨rfl, rfl⟩))
    (fun os started H enc _ F => by rw [OpenClaim.pre_eq_preRow]; exact lifted os started H enc F)
theorem plain (f : FuncId) (fn : Func) (hf : Tryd.pinned.checked.prog.funcNamed "loop.example/wholenet/laws.FnCodeBack" = some f) (hfn : Tryd.pinned.checked.prog.funcs[f]? = some fn) :
    false = Tryd.pinned.checked.prog.looks [] ∧ ∀ (j : Nat) t, fn.params[j]? = some t → Tryd.pinned.checked.prog.wantsStandIn t = false := by
  obtain rfl : f = 5 := Option.some.inj ((show Tryd.prog.funcNamed "loop.example/wholenet/laws.FnCodeBack" = some 5 by kernel_rfl).symm.trans hf) |>.symm
  obtain rfl : fn = Tryd.f5 := (Option.some.inj (Tryd.func5.symm.trans hfn)).symm
  refine ⟨by kernel_rfl, fun j t ht => ?_⟩
  rw [Tryd.params5] at ht
  obtain rfl : t = 22 := by simpa using Array.mem_of_getElem? ht
  exact (show Tryd.prog.wantsStandIn 22 = false by kernel_rfl)
end fnCodeBackCard
theorem fnCodeBack_card : Rows.FnCodeBackCardSaid :=
  Claim7.holds_tied_plain_at .later [] _ _ _ _ fnCodeBackCard.said (fun _ h => by cases h) (by kernel_rfl) (fun _ h => by cases h) fnCodeBack_row_tie rfl ⟨rfl, rfl⟩ (by kernel_rfl) rfl fnCodeBackCard.plain (by kernel_rfl)
end Go.Proofs.YtofbjpcmiohhpaaDoor
