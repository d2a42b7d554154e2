/-
  FnDecodeBytes: for every slice of bytes the law returns true and writes nothing that was there; the tables hold what the program's text lays (tied).
-/
import Derived.Test.YtpbiomlohgcjdaaDoorDrawDec
import Derived.Test.YtpbiomlohgcjdaaDoorCards
import Derived.Test.YtpbiomlohgcjdaaDoorTie
import Derived.Deep.DeepHandedRow
import Derived.OpenVars
namespace Go.Proofs.YtpbiomlohgcjdaaDoor
open Go.RowKit Go.ChangeShapes Go.WideShapes Go.ChangeAt

theorem one_mended (z : Int) (h0 : 0 ≤ z) (h1 : z ≤ 127) : ones8 (xor8 (encN (decN z)) z) = cnt1 z := by
  have q : ∀ k : Fin 128, ones8 (xor8 (encN (decN (k.val : Int))) (k.val : Int)) = cnt1 (k.val : Int) := by decide +kernel
  have h2 := q ⟨z.toNat, by omega⟩
  rwa [show ((z.toNat : Nat) : Int) = z by omega] at h2
theorem getD_of' {zs : List Int} {k : Nat} {z : Int} (h : zs[k]? = some z) : zs.getD k 0 = z := by simp [List.getD, h]
theorem nibAt_dec {zs : List Int} (hg : GoodCode zs) (hu : U8s zs) (i : Nat) (z : Int) (h : zs[i]? = some z) : nibAt (decB zs) i = decN z := by
  have hl := (List.getElem?_eq_some_iff.1 h).1
  have hev := hg.1
  have h2 : i / 2 < zs.length / 2 := by omega
  have hn := fun y (hy : y ∈ zs) => decN_b y (hu y hy).1 (hg.2.2 y hy)
  unfold nibAt
  rw [show decB zs = decTo zs (zs.length / 2) zs.length by simp [decB, hg]]
  rw [getD_of' (decTo_at zs _ zs.length (i / 2) h2), List.take_of_length_le (Nat.le_refl _)]
  by_cases he : i % 2 = 0
  · have ha : zs[2 * (i / 2)]? = some z := by rw [show 2 * (i / 2) = i by omega]; exact h
    have hb : zs[2 * (i / 2) + 1]? = some zs[2 * (i / 2) + 1] := List.getElem?_eq_getElem (by omega)
    rw [if_pos he, two_at zs (i / 2) _ _ ha hb]
    have := hn _ (List.mem_of_getElem? hb)
    omega
  · have hb : zs[2 * (i / 2) + 1]? = some z := by rw [show 2 * (i / 2) + 1 = i by omega]; exact h
    have ha : zs[2 * (i / 2)]? = some zs[2 * (i / 2)] := List.getElem?_eq_getElem (by omega)
    rw [if_neg he, two_at zs (i / 2) _ _ ha hb]
    have := hn _ (List.mem_of_getElem? hb)
    omega
theorem decB_u8s {zs : List Int} (hu : U8s zs) : U8s (decB zs) := by
  by_cases hg : GoodCode zs
  · intro y hy
    obtain ⟨i, hi⟩ := List.getElem?_of_mem hy
    rw [show decB zs = decTo zs (zs.length / 2) zs.length by simp [decB, hg]] at hi
    have hil := (List.getElem?_eq_some_iff.1 hi).1
    rw [decTo_length] at hil
    have ha : zs[2 * i]? = some zs[2 * i] := List.getElem?_eq_getElem (by omega)
    have hb : zs[2 * i + 1]? = some zs[2 * i + 1] := List.getElem?_eq_getElem (by omega)
    rw [decTo_at _ _ _ _ hil, List.take_of_length_le (Nat.le_refl _), two_at zs i _ _ ha hb] at hi
    injection hi with hi
    have h1 := decN_b _ (hu _ (List.mem_of_getElem? ha)).1 (hg.2.2 _ (List.mem_of_getElem? ha))
    have h2 := decN_b _ (hu _ (List.mem_of_getElem? hb)).1 (hg.2.2 _ (List.mem_of_getElem? hb))
    omega
  · rw [show decB zs = [] by simp [decB, hg]]; intro y hy; cases hy
theorem dist_mended {zs : List Int} (hg : GoodCode zs) (hu : U8s zs) (h6 : zs.length ≤ 600) : distOf (encB (decB zs)) zs = decM zs := by
  have hdl : (decB zs).length = zs.length / 2 := by rw [show decB zs = decTo zs (zs.length / 2) zs.length by simp [decB, hg], decTo_length]
  have hev := hg.1
  have he : encB (decB zs) = encFlat (decB zs) := by unfold encB; rw [if_pos (by omega)]
  have hel : (encFlat (decB zs)).length = zs.length := by rw [encFlat_length, hdl]; omega
  have key : ∀ k, k ≤ zs.length → diffs ((bitsFlat ((encFlat (decB zs)).take k)).zip (bitsFlat (zs.take k))) = cntTo zs k := by
    intro k
    induction k with
    | zero => intro _; rfl
    | succ k ih =>
      intro hk
      have hz : zs[k]? = some zs[k] := List.getElem?_eq_getElem (by omega)
      have hx := encFlat_at (decB zs) k (by omega)
      rw [nibAt_dec hg hu k _ hz] at hx
      have u1 := hu _ (List.mem_of_getElem? hz)
      have u2 := hg.2.2 _ (List.mem_of_getElem? hz)
      have u3 := decN_b _ u1.1 u2
      have u4 := encN_b _ u3.1 u3.2
      rw [zipFlat_snoc _ _ k _ _ hx hz, diffs_app, ih (by omega), cntTo_succ zs k _ hz, ← ones8_xor _ _ ⟨u4.1, by omega⟩ u1, one_mended _ u1.1 u2]
  rw [he]
  unfold distOf
  rw [if_pos ⟨by omega, hel⟩]
  have := key zs.length (Nat.le_refl _)
  rw [List.take_of_length_le (by omega), List.take_of_length_le (Nat.le_refl _)] at this
  rw [this]
  simp [decM, hg]

set_option maxHeartbeats 4000000 in
set_option maxRecDepth 100000 in
theorem walk_FnDecodeBytes {A0 : Option Addr} {n0 c0 : Nat} {zs0 : List Int} {w : World} (hC : CodesIn w) (hR : RowsIn w) (h0 : Has w A0 n0 (ints .u8 zs0)) (hwf0 : ∀ z ∈ zs0, (Lit.int .u8 z).wf = true) (hc0 : n0 ≤ c0 ∧ c0 ≤ maxLen) :
    Calls Tryd.prog 3 #[.slice A0 n0 c0] w fun e w' => e = .returned (.bool true) ∧ Below w.heap.size w w' := by
  have hu0 : U8s zs0 := fun z hz => u8_of_wf (hwf0 z hz)
  clear hwf0
  by_cases hn0 : n0 ≤ 1048576
  · go_enter Tryd.func3, Tryd.ntmps3
    go_wp2_with (fail)
    refine (drawDecodeBytes_any h0 hu0 hc0).mono ?_
    rintro e w1 h
    unfold OneB at h
    obtain ⟨A1, n, c, zs, rfl, O1, hu, hn, B1⟩ := h
    go_wp2_with (fail)
    refine (implDecodeBytes_any (hR.bel B1) O1.has hu (by omega)).mono ?_
    rintro e w2 ⟨A2, n2, c2, rfl, O2, B2⟩
    have C2 := bel_trans B1 B2
    have P2 := O1.bel B2
    go_wp2_with (fail)
    refine (specDecodeBytes_any P2.has hu (by omega)).mono ?_
    rintro e w3 ⟨A3, n3, c3, rfl, O3, B3⟩
    have C3 := bel_trans C2 B3
    have P3 := P2.bel B3
    have Q3 := O2.bel B3
    have hux := decB_u8s hu
    have hn2 : n2 ≤ 600 := by have q1 := Q3.has.len; have q2 := decB_le zs; omega
    have t1 := run_str (dst := 9) (c := c2) (w := w3) Tryd.underlying22 Tryd.underlying5 Tryd.underlying9 Q3.has
    have t2 := run_str (dst := 9) (c := c3) (w := w3) Tryd.underlying22 Tryd.underlying5 Tryd.underlying9 O3.has
    have HL := Lib.hid P3.has.len
    by_cases hg : GoodCode zs
    · have hmb : 0 ≤ decM zs ∧ decM zs ≤ 4800 := by
        rw [show decM zs = cntTo zs zs.length by simp [decM, hg]]
        have := cntTo_b zs zs.length
        have := hg.2.1
        omega
      obtain ⟨m0, m1⟩ := hmb
      by_cases h6 : n ≤ 600
      · have HD := Lib.hid (dist_mended hg hu (by rw [HL.out]; exact h6))
        have mB : decide (decM zs < 0) = false := by simp; omega
        generalize decM zs = m at *
        go_wp2_with (fail)
        refine (implEncodeBytes_any (hC.bel C3) Q3.has hux (by omega)).mono ?_
        rintro e w4 ⟨A4, n4, c4, rfl, O4, B4⟩
        have C4 := bel_trans C3 B4
        have P4 := P3.bel B4
        have hn4 : n4 ≤ 1200 := by have q1 := O4.has.len; have q2 := encB_le (decB zs); omega
        have CD := implDistance_any (c := c4) (c' := c) O4.has (encB_u8s hux) (by omega) P4.has hu (by omega)
        rw [HD.out] at CD
        go_wp2_with (fail)
        refine CD.mono ?_
        rintro e w5 ⟨rfl, B5⟩
        go_wp2
        go_ret
        exact ⟨rfl, bel_trans C4 B5⟩
      · have nB : decide ((600 : Int) < (n : Int)) = true := by simp; omega
        have mB : decide (decM zs < 0) = false := by simp; omega
        generalize decM zs = m at *
        clear hg
        go_wp2
        go_ret
        exact ⟨rfl, C3⟩
    · have hm : decM zs = -1 := by simp [decM, hg]
      rw [hm]
      clear hg hm
      go_wp2
      go_ret
      exact ⟨rfl, C3⟩
  · go_enter Tryd.func3, Tryd.ntmps3
    go_wp2
    go_ret
    exact ⟨rfl, Below.refl _ _⟩
namespace fnDecodeBytesCard
noncomputable def laidWorld (os : Os) : World :=
  { World.holding Tryd.prog os ⟨#[], #[], []⟩ with heap := (((World.holding Tryd.prog os ⟨#[], #[], []⟩).heap.modify 0 (fun | .cells _ t frozen => .cells (ints .i64 codes).toArray t frozen | o => o)).modify 1 (fun | .cells _ t frozen => .cells #[.int .i64 85, .int .i64 51, .int .i64 15] t frozen | o => o)) }
theorem laid_met (os : Os) : laidMet Tryd.prog Rows.fnDecodeBytesRow.laid ((laidWorld os).forCall (fun _ _ => 0) ⟨#[], #[.slice none 0 0], []⟩).memory :=
  laidMet_of_run' 8 (by kernel_rfl) (by kernel_rfl)
theorem reads (os : Os) {H : Type} (enc : TypeId × Value → H) : ∃ places, DataW.whole enc Tryd.prog ((laidWorld os).forCall (fun _ _ => 0) ⟨#[], #[.slice none 0 0], []⟩).memory Tryd.f3.params.toList Rows.fnDecodeBytesSpec.vars false (#[.slice none 0 0] : Array Value).toList 8 = some ([.nil], [Rows.laid_loop_example_wholenet_impl_ruleRows, Rows.laid_loop_example_wholenet_impl_nibbleCodes], places) :=
  ⟨MemPlace.row ⟨1, 0, none⟩ 3 ++ MemPlace.row ⟨0, 0, none⟩ 16, by kernel_rfl⟩
set_option maxRecDepth 100000 in
theorem lifted (os : Os) (started : os.Started) (H : Type) (enc : TypeId × Value → H) (F : Stop.Interp) :
    ReturnsInHanded {} Tryd.checked os 3 .any ((OpenSpec.ofChange Rows.fnDecodeBytesSpec).preRow enc Tryd.prog Tryd.f3 Rows.fnDecodeBytesRow.domain false Rows.fnDecodeBytesRow.laid) (((OpenSpec.ofChange Rows.fnDecodeBytesSpec).at F).post enc Tryd.prog Tryd.f3 false true false false) := by
  obtain ⟨places, hx⟩ := reads os enc
  refine returnsInHanded_of_row (C := Tryd.checked) (s := OpenSpec.ofChange Rows.fnDecodeBytesSpec) (by kernel_rfl) started (by kernel_rfl) Tryd.func3
    (witness_row_at (enc := enc) (C := Tryd.checked) false (laidWorld os) #[.slice none 0 0] rfl (by kernel_rfl) (by kernel_rfl) (by kernel_rfl)
      (OpenSpec.preRow_of_cond 8 hx (by kernel_rfl) (fun k hk => by cases hk) (by kernel_rfl) (laid_met os))) ?_
  intro W base args ds gs before hval0 hW _ _ _ hL _ _
  have hval : ∀ (j : Nat) t v, Tryd.f3.params[j]? = some t → args[j]? = some v → Value.okWide Tryd.prog W .any base t v := hval0
  have hW' := hW
  obtain ⟨p, q, hA0, hV0, rfl, hfz, hnd⟩ := hW
  have hV : DataW.TrodVars enc Tryd.prog W (fun _ => true) ["loop.example/wholenet/impl.ruleRows", "loop.example/wholenet/impl.nibbleCodes"] gs q := hV0
  have hA : DataW.TrodAll enc Tryd.prog W 0 (fun _ => true) true Tryd.f3.params.toList args.toList ds p := hA0
  rw [Tryd.params3] at hA hval
  obtain ⟨v0, vs0, d0, ds0, p0, q0, hargs, rfl, rfl, h0, r0⟩ := trodAll_cons hA
  obtain ⟨rfl, rfl, rfl⟩ := trodAll_nil r0
  obtain rfl : args = #[v0] := by cases args; simp_all
  obtain ⟨_, _, _, _, e0, _, _, _, _, _, e1, _, rfl, _⟩ := trodVars_two hV
  have Tcodes := codes_of (rest := [("loop.example/wholenet/impl.ruleRows", Rows.laid_loop_example_wholenet_impl_ruleRows)]) hL
  have Trows := rows_of (rest := []) (laidMet.filter (fun x => x.1 == "loop.example/wholenet/impl.ruleRows") (show laidMet Tryd.prog [("loop.example/wholenet/impl.nibbleCodes", Rows.laid_loop_example_wholenet_impl_nibbleCodes), ("loop.example/wholenet/impl.ruleRows", Rows.laid_loop_example_wholenet_impl_ruleRows)] W from hL))
  obtain ⟨a0, len0, cap0, rfl⟩ := okWide_slice Tryd.underlying22 (hval 0 22 v0 rfl rfl)
  have k0 := h0
  have lt0 : ∀ x ∈ p0, x.block < W.heap.size := by obtain ⟨m, hm⟩ := k0; exact DataW.trod_lt m _ _ _ hm
  obtain ⟨z0, H0, U0, M0⟩ := has_of_trod (k := .u8) Tryd.underlying22 Tryd.underlying5 (by kernel_rfl) h0
  clear hA0 hval0
  refine (walk_FnDecodeBytes Tcodes Trows H0 U0 M0).mono fun e W' ⟨he, bel⟩ => ?_
  subst he
  exact ⟨_, rfl, _, _, _, [], _, _, hW', trodAll_mk1 (shut_bool Tryd.underlying4 _), (trodAll_cons_mk (Below.trod (by kernel_rfl) (by kernel_rfl) (of_decide_eq_true (by kernel_rfl)) k0 bel lt0) trodAll_mk0), Below.trodVars (by kernel_rfl) bel (by kernel_rfl) hV, bel.frame _, fun h => by cases h⟩
theorem said : Rows.FnDecodeBytesSaid :=
  OpenClaim.holds_of_cond 3 Tryd.f3 rfl rfl rfl rfl rfl rfl rfl ⟨rfl, rfl, rfl, rfl, rfl⟩ rfl rfl rfl rfl rfl (by kernel_rfl) Tryd.func3 (by kernel_rfl)
    (of_decide_eq_true (by kernel_rfl)) (by unfold Func.isWrapper; first | (rw [if_pos (by decide +kernel)]; kernel_rfl) | (rw [if_neg (by decide +kernel)]; exact ⟨rfl, rfl⟩))
    (fun os started H enc _ F => by rw [OpenClaim.pre_eq_preRow]; exact lifted os started H enc F)
theorem plain (f : FuncId) (fn : Func) (hf : Tryd.pinned.checked.prog.funcNamed "loop.example/wholenet/laws.FnDecodeBytes" = some f) (hfn : Tryd.pinned.checked.prog.funcs[f]? = some fn) :
    false = Tryd.pinned.checked.prog.looks [] ∧ ∀ (j : Nat) t, fn.params[j]? = some t → Tryd.pinned.checked.prog.wantsStandIn t = false := by
  obtain rfl : f = 3 := Option.some.inj ((show Tryd.prog.funcNamed "loop.example/wholenet/laws.FnDecodeBytes" = some 3 by kernel_rfl).symm.trans hf) |>.symm
  obtain rfl : fn = Tryd.f3 := (Option.some.inj (Tryd.func3.symm.trans hfn)).symm
  refine ⟨by kernel_rfl, fun j t ht => ?_⟩
  rw [Tryd.params3] at ht
  obtain rfl : t = 22 := by simpa using Array.mem_of_getElem? ht
  exact (show Tryd.prog.wantsStandIn 22 = false by kernel_rfl)
end fnDecodeBytesCard
theorem fnDecodeBytes_card : Rows.FnDecodeBytesCardSaid :=
  Claim7.holds_tied_plain_at .later [] _ _ _ _ fnDecodeBytesCard.said (fun _ h => by cases h) (by kernel_rfl) (fun _ h => by cases h) fnDecodeBytes_row_tie rfl ⟨rfl, rfl⟩ (by kernel_rfl) rfl fnDecodeBytesCard.plain (by kernel_rfl)
end Go.Proofs.YtpbiomlohgcjdaaDoor
