/-
  FnExactMeetSpans: for every argument the exact law of MeetSpans returns true and writes nothing that was there. No condition.
-/
import Derived.Test.YtmifhkhanjiklaaTimD
import Derived.Test.YtmifhkhanjiklaaImp15h
import Derived.Test.YtmifhkhanjiklaaTimLaws
import Derived.Test.YtmifhkhanjiklaaShut
namespace Go.Proofs.Ytmifhkhanjiklaa
open Go.RowKit Go.ChangeShapes Go.WideShapes Go.ChangeAt

set_option maxRecDepth 100000 in
set_option maxHeartbeats 8000000 in
theorem walk_FnExactMeetSpans {A : Option Addr} {n c : Nat} {zs : List Duo} {w : World} (h : HasD w A n zs) (_ : I64D zs) (hc : n ≤ c ∧ c ≤ maxLen) :
    Calls Try.prog 15 #[.slice A n c] w fun e w' => e = .returned (.bool true) ∧ Below w.heap.size w w' := by
  have hm : n ≤ 9223372036854775807 := Nat.le_trans hc.1 (Nat.le_trans hc.2 (by unfold maxLen; omega))
  clear hc
  have SZ := Lib.hid (szSpanS_any (A := A) (n := n) (c := c) (w := w) (L := 1048576) rfl hm)
  by_cases hn : n ≤ 1048576
  rotate_left
  · rw [if_neg hn] at SZ
    go_enter Try.func15, Try.ntmps15
    go_wp2_with (fail)
    refine SZ.out.mono ?_
    rintro e w' ⟨rfl, rfl⟩
    go_wp2
    go_ret
    exact ⟨rfl, Below.refl _ _⟩
  rw [if_pos hn] at SZ
  have zB : decide ((1048576 : Int) - (n : Int) < 0) = false := by simp; omega
  go_enter Try.func15, Try.ntmps15
  go_wp2_with (fail)
  refine (SZ.out).mono ?_
  rintro e w' ⟨rfl, rfl⟩
  go_wp2_with (fail)
  refine (toSpanS_any h (by omega)).mono ?_
  rintro e w1 ⟨A1, c1, rfl, O1, B1⟩
  have S1 : w.heap.size ≤ w1.heap.size := B1.size
  have C1 := B1
  go_wp2_with (fail)
  refine (specMeetSpans_any O1.has (by omega)).mono ?_
  rintro e w2 ⟨⟨lo, hi, m, rfl, hm1⟩, B2⟩
  have S2 : w1.heap.size ≤ w2.heap.size := B2.size
  have C2 := bel_trans C1 B2
  obtain ⟨w3, hw3⟩ : ∃ W, w2.alloc (.cells #[.int .i64 lo, .int .i64 hi] 30) = W := ⟨_, rfl⟩
  have B3 : Below w2.heap.size w2 w3 := hw3 ▸ below_allocQ w2 _
  have P_3 : DRow w3 w2.heap.size 30 lo hi := hw3 ▸ dRow_alloc w2 _ _ _
  have S3 : w2.heap.size ≤ w3.heap.size := B3.size
  have C3 := bel_trans C2 B3
  go_wp2_with (fail)
  refine (toSpanS_any (h.bel C3) (by omega)).mono ?_
  rintro e w4 ⟨A4, c4, rfl, O4, B4⟩
  have S4 : w3.heap.size ≤ w4.heap.size := B4.size
  have C4 := bel_trans C3 B4
  have P_4 := P_3.bel B4
  go_wp2_with (fail)
  refine (implMeetSpans_any O4.has (by omega)).mono ?_
  rintro e w5 ⟨⟨lo', hi', m', rfl, hm2⟩, B5⟩
  have S5 : w4.heap.size ≤ w5.heap.size := B5.size
  have C5 := bel_trans C4 B5
  have P_5 := P_4.bel B5
  have O4_5 := O4.bel B5
  obtain ⟨e1, e2, e3⟩ := hm1.uniq hm2
  subst e1 e2 e3
  clear hm1 hm2
  have bB : (m != m) = false := by simp
  obtain ⟨w6, hw6⟩ : ∃ W, w5.alloc (.cells #[.int .i64 lo, .int .i64 hi] 30) = W := ⟨_, rfl⟩
  have B6 : Below w5.heap.size w5 w6 := hw6 ▸ below_allocQ w5 _
  have Q_6 : DRow w6 w5.heap.size 30 lo hi := hw6 ▸ dRow_alloc w5 _ _ _
  have S6 : w5.heap.size ≤ w6.heap.size := B6.size
  have C6 := bel_trans C5 B6
  have P_6 := P_5.bel B6
  have O4_6 := O4_5.bel B6
  obtain ⟨cP60, cP61⟩ := P_6.cells
  obtain ⟨cQ60, cQ61⟩ := Q_6.cells
  go_wp2_with (fail)
  refine (eqSpan_any lo hi _).mono ?_
  rintro e w7 ⟨rfl, B7⟩
  have S7 : w6.heap.size ≤ w7.heap.size := B7.size
  have C7 := bel_trans C6 B7
  have P_7 := P_6.bel B7
  have Q_7 := Q_6.bel B7
  have O4_7 := O4_6.bel B7
  go_wp2_with (fail)
  refine (toSpanS_any (h.bel C7) (by omega)).mono ?_
  rintro e w8 ⟨A8, c8, rfl, O8, B8⟩
  have S8 : w7.heap.size ≤ w8.heap.size := B8.size
  have C8 := bel_trans C7 B8
  have P_8 := P_7.bel B8
  have Q_8 := Q_7.bel B8
  have O4_8 := O4_7.bel B8
  go_wp2_with (fail)
  refine (eqSpanS_same O4_8.has O8.has (by omega)).mono ?_
  rintro e w9 ⟨rfl, B9⟩
  have S9 : w8.heap.size ≤ w9.heap.size := B9.size
  have C9 := bel_trans C8 B9
  have P_9 := P_8.bel B9
  have Q_9 := Q_8.bel B9
  have O4_9 := O4_8.bel B9
  go_wp2
  go_ret
  exact ⟨rfl, C9⟩
set_option maxRecDepth 100000 in
theorem lifted_FnExactMeetSpans (os : Os) (started : os.Started) (H : Type) (enc : TypeId × Value → H) :
    ReturnsInHanded {} Try.checked os 15 .any (Rows.fnExactMeetSpansSpec.pre6 enc Try.prog Try.f15 Rows.fnExactMeetSpansRow.domain false) (Rows.fnExactMeetSpansSpec.post enc Try.prog Try.f15 false true false false) := by
  refine returnsInHanded_of_change (C := Try.checked) (by kernel_rfl) started (by kernel_rfl) Try.func15
    (ChangeSpec.witness6 (enc := enc) (C := Try.checked) false ⟨#[], #[.slice none 0 0], []⟩ 8 (by kernel_rfl) (by kernel_rfl) (by kernel_rfl) (by kernel_rfl)) ?_
  intro W base args ds gs before hval0 hW hcnd _
  have hval : ∀ (j : Nat) t v, Try.f15.params[j]? = some t → args[j]? = some v → Value.okWide Try.prog W .any base t v := hval0
  have hW' := hW
  obtain ⟨p, q, hA0, hV, rfl, hfz, hnd⟩ := hW
  have hA : DataW.TrodAll enc Try.prog W 0 (fun _ => true) true Try.f15.params.toList args.toList ds p := hA0
  rw [Try.params15] at hA hval
  obtain ⟨v0, vs0, d0, ds0, p0, q0, hargs, rfl, rfl, h0, r0⟩ := trodAll_cons hA
  obtain ⟨rfl, rfl, rfl⟩ := trodAll_nil r0
  obtain rfl : args = #[v0] := by cases args; simp_all
  obtain ⟨rfl, rfl⟩ := trodVars_none hV
  obtain ⟨a0, len0, cap0, rfl⟩ := okWide_slice Try.underlying58 (hval 0 58 v0 rfl rfl)
  have k0 := h0
  have lt0 : ∀ x ∈ p0, x.block < W.heap.size := by obtain ⟨m, hm⟩ := k0; exact DataW.trod_lt m _ _ _ hm
  obtain ⟨z0, H0, U0, M0⟩ := hasD_of_trod Try.underlying58 Try.underlying63 (by kernel_rfl) (by kernel_rfl) Try.underlying3 Try.underlying3 h0
  clear hA0 hval0
  refine (walk_FnExactMeetSpans H0 U0 M0).mono fun e W' ⟨he, bel⟩ => ?_
  subst he
  exact ⟨_, rfl, _, _, _, [], _, [], hW', trodAll_mk1 (shut_bool Try.underlying4 _), (trodAll_cons_mk (Below.trod (by kernel_rfl) (by kernel_rfl) (of_decide_eq_true (by kernel_rfl)) k0 bel lt0) trodAll_mk0), rfl, bel.frame _, fun h => by cases h⟩

theorem fnExactMeetSpans_holds : Rows.FnExactMeetSpansSaid :=
  OpenClaim.holds_of_wide 15 Try.f15 rfl rfl rfl rfl rfl rfl rfl ⟨rfl, rfl, rfl, rfl, rfl⟩ rfl rfl rfl rfl rfl (by kernel_rfl) Try.func15
    (by unfold joinedFacts; with_reducible refine Bool.and_eq_true_iff.2 ⟨?_, (by as_aux_lemma => kernel_rfl)⟩; with_reducible refine Bool.and_eq_true_iff.2 ⟨?_, (by as_aux_lemma => kernel_rfl)⟩; with_reducible refine Bool.and_eq_true_iff.2 ⟨?_, (by as_aux_lemma => kernel_rfl)⟩; with_reducible refine Bool.and_eq_true_iff.2 ⟨?_, (by as_aux_lemma => kernel_rfl)⟩; with_reducible refine Bool.and_eq_true_iff.2 ⟨?_, (by with_unfolding_all exact shutMake)⟩; with_reducible refine Bool.and_eq_true_iff.2 ⟨?_, (by with_unfolding_all exact shutLifts)⟩; with_reducible refine Bool.and_eq_true_iff.2 ⟨?_, shutEnter⟩; (repeat (with_reducible refine Bool.and_eq_true_iff.2 ⟨?_, (by as_aux_lemma => kernel_rfl)⟩)); as_aux_lemma => kernel_rfl)
    (of_decide_eq_true (by kernel_rfl)) (by unfold Func.isWrapper; first | (rw [if_pos (by decide +kernel)]; kernel_rfl) | (rw [if_neg (by decide +kernel)]; exact ⟨rfl, rfl⟩))
    (fun os started H enc _ => lifted_FnExactMeetSpans os started H enc)
end Go.Proofs.Ytmifhkhanjiklaa
