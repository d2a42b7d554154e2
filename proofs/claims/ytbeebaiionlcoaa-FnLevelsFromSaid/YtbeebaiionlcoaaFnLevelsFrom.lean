/-
  FnLevelsFrom: for every slice of bytes the law returns true and writes nothing that was there. No condition.
-/
import Derived.Test.YtbeebaiionlcoaaImp8
import Derived.Test.YtbeebaiionlcoaaDrawLev
import Derived.Test.YtbeebaiionlcoaaWnInts
import Derived.Test.YtbeebaiionlcoaaShut
namespace Go.Proofs.Ytbeebaiionlcoaa
open Go.RowKit Go.ChangeShapes Go.WideShapes Go.ChangeAt

set_option maxHeartbeats 8000000 in
set_option maxRecDepth 100000 in
theorem walk_FnLevelsFrom {A0 : Option Addr} {n0 c0 : Nat} {zs0 : List Int} {w : World} (h0 : Has w A0 n0 (ints .u8 zs0)) (hwf0 : ∀ z ∈ zs0, (Lit.int .u8 z).wf = true) (hc0 : n0 ≤ c0 ∧ c0 ≤ maxLen) :
    Calls Try.prog 8 #[.slice A0 n0 c0] w fun e w' => e = .returned (.bool true) ∧ Below w.heap.size w w' := by
  have hu0 : U8s zs0 := fun z hz => u8_of_wf (hwf0 z hz)
  clear hwf0
  by_cases hn0 : n0 ≤ 1048576
  rotate_left
  · go_enter Try.func8, Try.ntmps8
    go_wp2
    go_ret
    exact ⟨rfl, Below.refl _ _⟩
  go_enter Try.func8, Try.ntmps8
  go_wp2_with (fail)
  refine (drawLevelsFrom_any h0 hu0 hc0).mono ?_
  rintro e w1 hX
  unfold IntsN at hX
  obtain ⟨A1, n1, c1, zs, wd, rfl, O1, hn1, _, B1⟩ := hX
  have H1 := O1.has
  clear O1
  obtain ⟨⟨lv, ok⟩, hr⟩ : ∃ r, levelsFromL zs wd = r := ⟨_, rfl⟩
  have HR := Lib.hid hr
  have hle := levelsFromL_len zs wd
  rw [hr] at hle
  clear hr
  go_wp2_with (fail)
  refine (implLevelsFrom_r HR.out H1 (by omega)).mono ?_
  rintro e w2 ⟨A2, n2, c2, rfl, P2, B2⟩
  have C2 := bel_trans B1 B2
  have H2 := H1.bel B2
  have L2 := P2.has.len
  dsimp only at L2 hle P2 ⊢
  go_wp2_with (fail)
  refine (specLevelsFrom_r HR.out H2 (by omega)).mono ?_
  rintro e w3 ⟨A3, n3, c3, rfl, P3, B3⟩
  have C3 := bel_trans C2 B3
  have H3 := H2.bel B3
  have Q3 := P2.has.bel B3
  have hB : (ok != ok) = false := by simp
  have hB2 : (ok == ok) = true := by simp
  go_wp2_with (fail)
  refine (wnInts_same Q3 P3.has (by omega)).mono ?_
  rintro e w4 ⟨rfl, B4⟩
  have C4 := bel_trans C3 B4
  have H4 := H3.bel B4
  have Q4 := Q3.bel B4
  have R4 := P3.has.bel B4
  clear P2 P3 B1 B2 B3 B4 H1 H2 H3 C2 C3 Q3
  cases ok with
  | false =>
    clear hB hB2
    go_wp2_with (fail)
    refine (wnInts_same Q4 R4 (by omega)).mono ?_
    rintro e w5 ⟨rfl, B5⟩
    have C5 := bel_trans C4 B5
    go_wp2
    go_ret
    exact ⟨rfl, C5⟩
  | true =>
    clear hB hB2
    by_cases hz : n2 = 0
    · subst hz
      have hzB : (((0 : Nat) : Int) == 0) = true := rfl
      go_wp2_with (fail)
      refine (wnInts_same Q4 R4 (by omega)).mono ?_
      rintro e w5 ⟨rfl, B5⟩
      have C5 := bel_trans C4 B5
      go_wp2
      go_ret
      exact ⟨rfl, C5⟩
    · have hzB : ((n2 : Int) == 0) = false := by simp; omega
      obtain ⟨f1, f2, f3, f4, f5⟩ := levels_even HR.out
      have HT := Lib.hid (ticksL_yes f1 f2 f3)
      have HE := Lib.hid f4
      have HRU := Lib.hid f5
      have htl := ticksL_len lv [wd]
      rw [HT.out] at htl
      clear hz f1 f2 f3 f4 f5
      have B5 : Below w4.heap.size w4 (w4.alloc (.cells #[.int .i64 wd] 3)) := (Below.refl _ _).alloc (Nat.le_refl _) _
      have HW := has_one w4 wd
      have C5 := bel_trans C4 B5
      have H5 := H4.bel B5
      have Q5 := Q4.bel B5
      have CT := Lib.hid (implTicksOf_r (c := c2) (c2 := 1) HT.out Q5 HW (by omega) (by omega))
      clear HW
      go_wp2_with (fail)
      refine CT.out.mono ?_
      rintro e w6 ⟨A6, n6, c6, rfl, P6, B6⟩
      have C6 := bel_trans C5 B6
      have H6 := H5.bel B6
      have Q6 := Q5.bel B6
      have E6 := P6.has
      have L6 := E6.len
      have hn6 : n6 ≤ 16777216 := by omega
      clear htl L6
      go_wp2_with (fail)
      refine (implLevelsFrom_r HE.out E6 hn6).mono ?_
      rintro e w7 ⟨A7, n7, c7, rfl, P7, B7⟩
      have C7 := bel_trans C6 B7
      have H7 := H6.bel B7
      have Q7 := Q6.bel B7
      have E7 := E6.bel B7
      have L7 := P7.has.len
      dsimp only at L7 P7 ⊢
      go_wp2_with (fail)
      refine (wnInts_same P7.has Q7 (by omega)).mono ?_
      rintro e w8 ⟨rfl, B8⟩
      have C8 := bel_trans C7 B8
      have H8 := H7.bel B8
      have E8 := E7.bel B8
      go_wp2_with (fail)
      refine (implRunsOf_w E8 hn6).mono ?_
      rintro e w9 ⟨A9, n9, c9, rfl, P9, B9⟩
      have C9 := bel_trans C8 B9
      have H9 := H8.bel B9
      have L9 := P9.has.len
      go_wp2_with (fail)
      refine (implRunsOf_w H9 (by omega)).mono ?_
      rintro e w10 ⟨A10, n10, c10, rfl, P10, B10⟩
      have C10 := bel_trans C9 B10
      have L10 := P10.has.len
      have hee := HRU.out
      obtain rfl : n10 = n9 := by omega
      have heB : ((n10 : Int) == (n10 : Int)) = true := by simp
      clear hee L9 L10
      go_wp2
      go_ret
      exact ⟨rfl, C10⟩
set_option maxRecDepth 100000 in
theorem lifted_FnLevelsFrom (os : Os) (started : os.Started) (H : Type) (enc : TypeId × Value → H) :
    ReturnsInHanded {} Try.checked os 8 .any (Rows.fnLevelsFromSpec.pre6 enc Try.prog Try.f8 Rows.fnLevelsFromRow.domain false) (Rows.fnLevelsFromSpec.post enc Try.prog Try.f8 false true false false) := by
  refine returnsInHanded_of_change (C := Try.checked) (by kernel_rfl) started (by kernel_rfl) Try.func8
    (ChangeSpec.witness6 (enc := enc) (C := Try.checked) false ⟨#[], #[.slice none 0 0], []⟩ 8 (by kernel_rfl) (by kernel_rfl) (by kernel_rfl) (by kernel_rfl)) ?_
  intro W base args ds gs before hval0 hW hcnd _
  have hval : ∀ (j : Nat) t v, Try.f8.params[j]? = some t → args[j]? = some v → Value.okWide Try.prog W .any base t v := hval0
  have hW' := hW
  obtain ⟨p, q, hA0, hV, rfl, hfz, hnd⟩ := hW
  have hA : DataW.TrodAll enc Try.prog W 0 (fun _ => true) true Try.f8.params.toList args.toList ds p := hA0
  rw [Try.params8] at hA hval
  obtain ⟨v0, vs0, d0, ds0, p0, q0, hargs, rfl, rfl, h0, r0⟩ := trodAll_cons hA
  obtain ⟨rfl, rfl, rfl⟩ := trodAll_nil r0
  obtain rfl : args = #[v0] := by cases args; simp_all
  obtain ⟨rfl, rfl⟩ := trodVars_none hV
  obtain ⟨a0, len0, cap0, rfl⟩ := okWide_slice Try.underlying22 (hval 0 22 v0 rfl rfl)
  have k0 := h0
  have lt0 : ∀ x ∈ p0, x.block < W.heap.size := by obtain ⟨m, hm⟩ := k0; exact DataW.trod_lt m _ _ _ hm
  obtain ⟨z0, H0, U0, M0⟩ := has_of_trod (k := .u8) Try.underlying22 Try.underlying5 (by kernel_rfl) h0
  clear hA0 hval0
  refine (walk_FnLevelsFrom H0 U0 M0).mono fun e W' ⟨he, bel⟩ => ?_
  subst he
  exact ⟨_, rfl, _, _, _, [], _, [], hW', trodAll_mk1 (shut_bool Try.underlying4 _), (trodAll_cons_mk (Below.trod (by kernel_rfl) (by kernel_rfl) (of_decide_eq_true (by kernel_rfl)) k0 bel lt0) trodAll_mk0), rfl, bel.frame _, fun h => by cases h⟩

theorem fnLevelsFrom_holds : Rows.FnLevelsFromSaid :=
  OpenClaim.holds_of_wide 8 Try.f8 rfl rfl rfl rfl rfl rfl rfl ⟨rfl, rfl, rfl, rfl, rfl⟩ rfl rfl rfl rfl rfl (by kernel_rfl) Try.func8
    (by unfold joinedFacts; with_reducible refine Bool.and_eq_true_iff.2 ⟨?_, (by as_aux_lemma => kernel_rfl)⟩; with_reducible refine Bool.and_eq_true_iff.2 ⟨?_, (by as_aux_lemma => kernel_rfl)⟩; with_reducible refine Bool.and_eq_true_iff.2 ⟨?_, (by as_aux_lemma => kernel_rfl)⟩; with_reducible refine Bool.and_eq_true_iff.2 ⟨?_, (by as_aux_lemma => kernel_rfl)⟩; with_reducible refine Bool.and_eq_true_iff.2 ⟨?_, (by with_unfolding_all exact shutMake)⟩; with_reducible refine Bool.and_eq_true_iff.2 ⟨?_, (by with_unfolding_all exact shutLifts)⟩; with_reducible refine Bool.and_eq_true_iff.2 ⟨?_, shutEnter⟩; (repeat (with_reducible refine Bool.and_eq_true_iff.2 ⟨?_, (by as_aux_lemma => kernel_rfl)⟩)); as_aux_lemma => kernel_rfl)
    (of_decide_eq_true (by kernel_rfl)) (by unfold Func.isWrapper; first | (rw [if_pos (by decide +kernel)]; kernel_rfl) | (rw [if_neg (by decide +kernel)]; exact ⟨rfl, rfl⟩))
    (fun os started H enc _ => lifted_FnLevelsFrom os started H enc)
end Go.Proofs.Ytbeebaiionlcoaa
