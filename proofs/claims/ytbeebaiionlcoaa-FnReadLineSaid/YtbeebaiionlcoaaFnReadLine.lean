/-
  FnReadLine: for every slice of bytes the law returns true and writes nothing that was there. No condition.
-/
import Derived.Test.YtbeebaiionlcoaaImp8
import Derived.Test.YtbeebaiionlcoaaDrawLev
import Derived.Test.YtbeebaiionlcoaaWnInts
import Derived.Test.YtbeebaiionlcoaaShut
namespace Go.Proofs.Ytbeebaiionlcoaa
open Go.RowKit Go.ChangeShapes Go.WideShapes Go.ChangeAt

set_option maxHeartbeats 8000000 in
set_option maxRecDepth 100000 in
theorem walk_FnReadLine {A0 : Option Addr} {n0 c0 : Nat} {zs0 : List Int} {w : World} (h0 : Has w A0 n0 (ints .u8 zs0)) (hwf0 : ∀ z ∈ zs0, (Lit.int .u8 z).wf = true) (hc0 : n0 ≤ c0 ∧ c0 ≤ maxLen) :
    Calls Try.prog 9 #[.slice A0 n0 c0] w fun e w' => e = .returned (.bool true) ∧ Below w.heap.size w w' := by
  have hu0 : U8s zs0 := fun z hz => u8_of_wf (hwf0 z hz)
  clear hwf0
  by_cases hn0 : n0 ≤ 1048576
  rotate_left
  · go_enter Try.func9, Try.ntmps9
    go_wp2
    go_ret
    exact ⟨rfl, Below.refl _ _⟩
  go_enter Try.func9, Try.ntmps9
  go_wp2_with (fail)
  refine (drawReadLine_any h0 hu0 hc0).mono ?_
  rintro e w1 hX
  unfold IntsN at hX
  obtain ⟨A1, n1, c1, zs, wd, rfl, O1, hn1, _, B1⟩ := hX
  have H1 := O1.has
  clear O1
  obtain ⟨⟨bs, ok⟩, hr⟩ : ∃ r, readLineL zs wd = r := ⟨_, rfl⟩
  have HR := Lib.hid hr
  have hle := readLineL_len zs wd
  rw [hr] at hle
  clear hr
  go_wp2_with (fail)
  refine (implReadLine_w H1 (by omega)).mono ?_
  rintro e w2 ⟨A2, n2, c2, rfl, P2, B2⟩
  rw [HR.out] at P2 ⊢
  have C2 := bel_trans B1 B2
  have H2 := H1.bel B2
  have L2 := P2.has.len
  dsimp only at L2 hle P2 ⊢
  go_wp2_with (fail)
  refine (specReadLine_w H2 (by omega)).mono ?_
  rintro e w3 ⟨A3, n3, c3, rfl, P3, B3⟩
  rw [HR.out] at P3 ⊢
  dsimp only at P3 ⊢
  have C3 := bel_trans C2 B3
  have H3 := H2.bel B3
  have Q3 := P2.has.bel B3
  have hB : (ok != ok) = false := by simp
  have hB2 : (ok == ok) = true := by simp
  go_wp2_with (fail)
  refine (wnInts_same Q3 P3.has (by omega)).mono ?_
  rintro e w4 ⟨rfl, B4⟩
  have C4 := bel_trans C3 B4
  have H4 := H3.bel B4
  have Q4 := Q3.bel B4
  have R4 := P3.has.bel B4
  clear P2 P3 B1 B2 B3 B4 H1 H2 H3 C2 C3 Q3
  cases ok with
  | false =>
    have hnil := readLineL_false HR.out
    have hz : n2 = 0 := by rw [hnil] at L2; simpa using L2.symm
    subst hz
    have hzB : (((0 : Nat) : Int) == 0) = true := rfl
    clear hB hB2 hnil L2 hle
    go_wp2_with (fail)
    refine (wnInts_same Q4 R4 (by omega)).mono ?_
    rintro e w5 ⟨rfl, B5⟩
    have C5 := bel_trans C4 B5
    go_wp2
    go_ret
    exact ⟨rfl, C5⟩
  | true =>
    obtain ⟨lv, hl1, hl2⟩ := readLineL_inv HR.out
    have HL := Lib.hid hl1
    have HLB := Lib.hid (levels_bitsFrom hl2).1
    have hlv := (levelsFromL_inv hl1).2.2.2.2
    clear hB hB2 hl1 hl2
    go_wp2_with (fail)
    refine (implLevelsFrom_r HL.out H4 (by omega)).mono ?_
    rintro e w5 ⟨A5, n5, c5, rfl, P5, B5⟩
    have C5 := bel_trans C4 B5
    have Q5 := Q4.bel B5
    have L5 := P5.has.len
    dsimp only at L5 P5
    go_wp2_with (fail)
    refine (implLevelsOf_w Q5 (by omega)).mono ?_
    rintro e w6 ⟨A6, n6, c6, rfl, P6, B6⟩
    rw [HLB.out] at P6
    have C6 := bel_trans C5 B6
    have R6 := P5.has.bel B6
    have hn6 : n6 ≤ 16777216 := by have q1 := P6.has.len; omega
    go_wp2_with (fail)
    refine (wnInts_same P6.has R6 hn6).mono ?_
    rintro e w7 ⟨rfl, B7⟩
    have C7 := bel_trans C6 B7
    go_wp2
    go_ret
    exact ⟨rfl, C7⟩
set_option maxRecDepth 100000 in
theorem lifted_FnReadLine (os : Os) (started : os.Started) (H : Type) (enc : TypeId × Value → H) :
    ReturnsInHanded {} Try.checked os 9 .any (Rows.fnReadLineSpec.pre6 enc Try.prog Try.f9 Rows.fnReadLineRow.domain false) (Rows.fnReadLineSpec.post enc Try.prog Try.f9 false true false false) := by
  refine returnsInHanded_of_change (C := Try.checked) (by kernel_rfl) started (by kernel_rfl) Try.func9
    (ChangeSpec.witness6 (enc := enc) (C := Try.checked) false ⟨#[], #[.slice none 0 0], []⟩ 8 (by kernel_rfl) (by kernel_rfl) (by kernel_rfl) (by kernel_rfl)) ?_
  intro W base args ds gs before hval0 hW hcnd _
  have hval : ∀ (j : Nat) t v, Try.f9.params[j]? = some t → args[j]? = some v → Value.okWide Try.prog W .any base t v := hval0
  have hW' := hW
  obtain ⟨p, q, hA0, hV, rfl, hfz, hnd⟩ := hW
  have hA : DataW.TrodAll enc Try.prog W 0 (fun _ => true) true Try.f9.params.toList args.toList ds p := hA0
  rw [Try.params9] at hA hval
  obtain ⟨v0, vs0, d0, ds0, p0, q0, hargs, rfl, rfl, h0, r0⟩ := trodAll_cons hA
  obtain ⟨rfl, rfl, rfl⟩ := trodAll_nil r0
  obtain rfl : args = #[v0] := by cases args; simp_all
  obtain ⟨rfl, rfl⟩ := trodVars_none hV
  obtain ⟨a0, len0, cap0, rfl⟩ := okWide_slice Try.underlying22 (hval 0 22 v0 rfl rfl)
  have k0 := h0
  have lt0 : ∀ x ∈ p0, x.block < W.heap.size := by obtain ⟨m, hm⟩ := k0; exact DataW.trod_lt m _ _ _ hm
  obtain ⟨z0, H0, U0, M0⟩ := has_of_trod (k := .u8) Try.underlying22 Try.underlying5 (by kernel_rfl) h0
  clear hA0 hval0
  refine (walk_FnReadLine H0 U0 M0).mono fun e W' ⟨he, bel⟩ => ?_
  subst he
  exact ⟨_, rfl, _, _, _, [], _, [], hW', trodAll_mk1 (shut_bool Try.underlying4 _), (trodAll_cons_mk (Below.trod (by kernel_rfl) (by kernel_rfl) (of_decide_eq_true (by kernel_rfl)) k0 bel lt0) trodAll_mk0), rfl, bel.frame _, fun h => by cases h⟩

theorem fnReadLine_holds : Rows.FnReadLineSaid :=
  OpenClaim.holds_of_wide 9 Try.f9 rfl rfl rfl rfl rfl rfl rfl ⟨rfl, rfl, rfl, rfl, rfl⟩ rfl rfl rfl rfl rfl (by kernel_rfl) Try.func9
    (by unfold joinedFacts; with_reducible refine Bool.and_eq_true_iff.2 ⟨?_, (by as_aux_lemma => kernel_rfl)⟩; with_reducible refine Bool.and_eq_true_iff.2 ⟨?_, (by as_aux_lemma => kernel_rfl)⟩; with_reducible refine Bool.and_eq_true_iff.2 ⟨?_, (by as_aux_lemma => kernel_rfl)⟩; with_reducible refine Bool.and_eq_true_iff.2 ⟨?_, (by as_aux_lemma => kernel_rfl)⟩; with_reducible refine Bool.and_eq_true_iff.2 ⟨?_, (by with_unfolding_all exact shutMake)⟩; with_reducible refine Bool.and_eq_true_iff.2 ⟨?_, (by with_unfolding_all exact shutLifts)⟩; with_reducible refine Bool.and_eq_true_iff.2 ⟨?_, shutEnter⟩; (repeat (with_reducible refine Bool.and_eq_true_iff.2 ⟨?_, (by as_aux_lemma => kernel_rfl)⟩)); as_aux_lemma => kernel_rfl)
    (of_decide_eq_true (by kernel_rfl)) (by unfold Func.isWrapper; first | (rw [if_pos (by decide +kernel)]; kernel_rfl) | (rw [if_neg (by decide +kernel)]; exact ⟨rfl, rfl⟩))
    (fun os started H enc _ => lifted_FnReadLine os started H enc)
end Go.Proofs.Ytbeebaiionlcoaa
