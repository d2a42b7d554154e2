/-
  FnExactTagOut: for every argument the exact law of TagOut returns true and writes nothing that was there. No condition.
-/
import Derived.Test.YtiokieancjigeaaVlanL
import Derived.Test.YtiokieancjigeaaImp10b
import Derived.Test.YtiokieancjigeaaShut
namespace Go.Proofs.Ytiokieancjigeaa
open Go.RowKit Go.ChangeShapes Go.WideShapes Go.ChangeAt

set_option maxRecDepth 100000 in
set_option maxHeartbeats 8000000 in
theorem walk_FnExactTagOut {B0 : Option Addr} {m0 d0 : Nat} {x q a1 : Int} {l : List Int} {w : World} (h0 : Has w B0 m0 (ints .i64 l)) (hc : m0 ≤ d0 ∧ d0 ≤ maxLen) (_ : -9223372036854775808 ≤ a1 ∧ a1 ≤ 9223372036854775807) :
    Calls Try.prog 11 #[.agg #[.int .i64 x, .int .i64 q, .slice B0 m0 d0], .int .i64 a1] w fun e w' => e = .returned (.bool true) ∧ Below w.heap.size w w' := by
  have hn9 : m0 ≤ 9223372036854775807 := Nat.le_trans hc.1 (Nat.le_trans hc.2 (by unfold maxLen; omega))
  obtain ⟨R, hR⟩ : ∃ R, outI (x, q, l) a1 = R := ⟨_, rfl⟩
  have bB : (R != R) = false := by simp
  clear hc
  obtain ⟨W, hW⟩ : ∃ W, w.alloc (.cells #[.int .i64 x, .int .i64 q, .slice B0 m0 d0] 48) = W := ⟨_, rfl⟩
  have BA : Below w.heap.size w W := by rw [← hW]; exact below_allocP w _
  have hWn : W.heap[w.heap.size]? = some (.cells #[.int .i64 x, .int .i64 q, .slice B0 m0 d0] 48 (0, 0)) := by rw [← hW]; exact heap_alloc_new w _
  obtain ⟨c0, c1, c2⟩ := cells3K hWn
  have h1 := h0.bel BA
  by_cases hm : (1048576 : Int) < (m0 : Int)
  · have C := Lib.hid (szVPort_r (B := B0) (m := m0) (d := d0) (x := x) (q := q) (L := 1048576) (w := W) hn9 (by omega) (szV_no hm))
    clear hm
    go_enter Try.func11, Try.ntmps11
    go_wp2_with (fail)
    refine C.out.mono ?_
    rintro e w1 ⟨rfl, B1⟩
    go_wp2
    go_ret
    exact ⟨rfl, bel_trans BA B1⟩
  have C := Lib.hid (szVPort_r (B := B0) (m := m0) (d := d0) (x := x) (q := q) (L := 1048576) (w := W) hn9 (by omega) (szV_yes hm))
  have vB : decide ((1048576 : Int) - (m0 : Int) < 0) = false := by simp; omega
  have hmm : m0 ≤ 16777216 := by omega
  clear hm
  go_enter Try.func11, Try.ntmps11
  go_wp2_with (fail)
  refine C.out.mono ?_
  rintro e w1 ⟨rfl, B1⟩
  have C1 := bel_trans BA B1
  have W1 := heap_belP B1 hWn
  obtain ⟨c10, c11, c12⟩ := cells3K W1
  clear c0 c1 c2
  go_wp2_with (fail)
  refine (toVPort_any (d := d0) (x := x) (q := q) (h0.bel C1) hmm).mono ?_
  rintro e w2 ⟨g2, rfl, O2, B2⟩
  have C2 := bel_trans C1 B2
  have W2 := heap_belP B2 W1
  clear c10 c11 c12
  go_wp2_with (fail)
  refine (specTagOut_r (d := m0) O2.has hmm hR).mono ?_
  rintro e w3 ⟨rfl, B3⟩
  have C3 := bel_trans C2 B3
  have W3 := heap_belP B3 W2
  obtain ⟨c30, c31, c32⟩ := cells3K W3
  go_wp2_with (fail)
  refine (toVPort_any (d := d0) (x := x) (q := q) (h0.bel C3) hmm).mono ?_
  rintro e w4 ⟨g4, rfl, O4, B4⟩
  have C4 := bel_trans C3 B4
  have W4 := heap_belP B4 W3
  clear c30 c31 c32
  obtain ⟨V, hV⟩ : ∃ V, w4.alloc (.cells #[.int .i64 x, .int .i64 q, .slice (some ⟨g4, 0, none⟩) m0 m0] 25) = V := ⟨_, rfl⟩
  have BV : Below w4.heap.size w4 V := by rw [← hV]; exact below_allocP w4 _
  have hVn : V.heap[w4.heap.size]? = some (.cells #[.int .i64 x, .int .i64 q, .slice (some ⟨g4, 0, none⟩) m0 m0] 25 (0, 0)) := by rw [← hV]; exact heap_alloc_new w4 _
  obtain ⟨v0, v1, v2⟩ := cells3K hVn
  have CV := bel_trans C4 BV
  have WV := heap_belP BV W4
  have OV := O4.bel BV
  go_wp2_with (fail)
  refine (implTagOut_r (d := m0) OV.has hmm hR).mono ?_
  rintro e w5 ⟨rfl, B5⟩
  have C5 := bel_trans CV B5
  have W5 := heap_belP B5 WV
  have V5 := heap_belP B5 hVn
  have O5 := OV.bel B5
  clear v0 v1 v2
  obtain ⟨D, hD⟩ : ∃ D, w5.drew = D := ⟨_, rfl⟩
  have BD : Below w5.heap.size w5 D := hD ▸ below_drewN w5 1
  have CD := bel_trans C5 BD
  obtain ⟨x0, x1, x2⟩ := cells3K (heap_belP BD W5)
  obtain ⟨y0, y1, y2⟩ := cells3K (heap_belP BD V5)
  have OD := O5.bel BD
  have VD := heap_belP BD V5
  clear hW hV W1 W2 W3 W4 WV
  go_wp2
  go_region_with (first | (go_at_call 36; refine (toVPort_any (d := d0) (x := x) (q := q) (h0.bel CD) hmm).mono ?_; rintro e w6 ⟨g6, rfl, O6, B6⟩; have C6 := bel_trans CD B6; have OX := OD.bel B6; obtain ⟨z0, z1, z2⟩ := cells3K (heap_belP B6 VD)) | (go_at_call 37; refine (eqVPort_b (d := m0) (d' := m0) (x := x) (q := q) OX.has O6.has hmm).mono ?_; rintro e w7 ⟨rfl, B7⟩))
  all_goals
    go_wp2
    go_ret
    exact ⟨rfl, bel_trans C6 B7⟩
set_option maxRecDepth 100000 in
theorem lifted_FnExactTagOut (os : Os) (started : os.Started) (H : Type) (enc : TypeId × Value → H) :
    ReturnsInHanded {} Try.checked os 11 .any (Rows.fnExactTagOutSpec.pre6 enc Try.prog Try.f11 Rows.fnExactTagOutRow.domain false) (Rows.fnExactTagOutSpec.post enc Try.prog Try.f11 false true false false) := by
  refine returnsInHanded_of_change (C := Try.checked) (by kernel_rfl) started (by kernel_rfl) Try.func11
    (ChangeSpec.witness6 (enc := enc) (C := Try.checked) false ⟨#[], #[.agg #[.int .i64 0, .int .i64 0, .slice none 0 0], .int .i64 0], []⟩ 8 (by kernel_rfl) (by kernel_rfl) (by kernel_rfl) (by kernel_rfl)) ?_
  intro W base args ds gs before hval0 hW hcnd _
  have hval : ∀ (j : Nat) t v, Try.f11.params[j]? = some t → args[j]? = some v → Value.okWide Try.prog W .any base t v := hval0
  have hW' := hW
  obtain ⟨p, q, hA0, hV, rfl, hfz, hnd⟩ := hW
  have hA : DataW.TrodAll enc Try.prog W 0 (fun _ => true) true Try.f11.params.toList args.toList ds p := hA0
  rw [Try.params11] at hA hval
  obtain ⟨v0, vs0, d0, ds0, p0, q0, hargs, rfl, rfl, h0, r0⟩ := trodAll_cons hA
  obtain ⟨v1, vs1, d1, ds1, p1, q1, rfl, rfl, rfl, h1, r1⟩ := trodAll_cons r0
  obtain ⟨rfl, rfl, rfl⟩ := trodAll_nil r1
  obtain rfl : args = #[v0, v1] := by cases args; simp_all
  obtain ⟨rfl, rfl⟩ := trodVars_none hV
  have k0 := h0
  have lt0 : ∀ x ∈ p0, x.block < W.heap.size := by obtain ⟨m, hm⟩ := k0; exact DataW.trod_lt m _ _ _ hm
  obtain ⟨x0, y0, s0, xd0, yd0, sd0, m0, rfl, rfl, rfl, xt0, yt0, st0⟩ := Go.Joins.open_agg3 Try.underlying48 (by kernel_rfl) (by kernel_rfl) (hval 0 48 v0 rfl rfl) h0
  obtain ⟨xi0, xe0, rfl, xw0⟩ := DataW.trod_int Try.underlying3 xt0
  injection xe0 with xe0 _
  subst xe0
  obtain ⟨yi0, ye0, rfl, yw0⟩ := DataW.trod_int Try.underlying3 yt0
  injection ye0 with ye0 _
  subst ye0
  obtain ⟨sB0, sm0, sc0, se0⟩ := Go.Joins.slice_form Try.underlying23 st0
  injection se0 with se0 _
  subst se0
  obtain ⟨zz0, H0, _, M0⟩ := has_of_trod (k := .i64) Try.underlying23 Try.underlying3 (by kernel_rfl) (show DataW.Trod enc Try.prog W 0 (fun _ => true) true 23 (.slice sB0 sm0 sc0) sd0.1 sd0.2 from ⟨_, by simpa [Value.cells] using st0⟩)
  obtain ⟨a1, rfl, rfl, rfl, w1⟩ := open_int Try.underlying3 (hval 1 3 v1 rfl rfl) h1
  have b1 := i64_of_wf w1
  clear hA0 hval0
  refine (walk_FnExactTagOut H0 M0 b1).mono fun e W' ⟨he, bel⟩ => ?_
  subst he
  exact ⟨_, rfl, _, _, _, [], _, [], hW', trodAll_mk1 (shut_bool Try.underlying4 _), (trodAll_cons_mk (Below.trod (by kernel_rfl) (by kernel_rfl) (of_decide_eq_true (by kernel_rfl)) k0 bel lt0) (trodAll_cons_mk (shut_int Try.underlying3 w1) trodAll_mk0)), rfl, bel.frame _, fun h => by cases h⟩

theorem fnExactTagOut_holds : Rows.FnExactTagOutSaid :=
  OpenClaim.holds_of_wide 11 Try.f11 rfl rfl rfl rfl rfl rfl rfl ⟨rfl, rfl, rfl, rfl, rfl⟩ rfl rfl rfl rfl rfl (by kernel_rfl) Try.func11
    (by unfold joinedFacts; with_reducible refine Bool.and_eq_true_iff.2 ⟨?_, (by as_aux_lemma => kernel_rfl)⟩; with_reducible refine Bool.and_eq_true_iff.2 ⟨?_, (by as_aux_lemma => kernel_rfl)⟩; with_reducible refine Bool.and_eq_true_iff.2 ⟨?_, (by as_aux_lemma => kernel_rfl)⟩; with_reducible refine Bool.and_eq_true_iff.2 ⟨?_, (by as_aux_lemma => kernel_rfl)⟩; with_reducible refine Bool.and_eq_true_iff.2 ⟨?_, (by with_unfolding_all exact shutMake)⟩; with_reducible refine Bool.and_eq_true_iff.2 ⟨?_, (by with_unfolding_all exact shutLifts)⟩; with_reducible refine Bool.and_eq_true_iff.2 ⟨?_, shutEnter⟩; (repeat (with_reducible refine Bool.and_eq_true_iff.2 ⟨?_, (by as_aux_lemma => kernel_rfl)⟩)); as_aux_lemma => kernel_rfl)
    (of_decide_eq_true (by kernel_rfl)) (by unfold Func.isWrapper; first | (rw [if_pos (by decide +kernel)]; kernel_rfl) | (rw [if_neg (by decide +kernel)]; exact ⟨rfl, rfl⟩))
    (fun os started H enc _ => lifted_FnExactTagOut os started H enc)
end Go.Proofs.Ytiokieancjigeaa
