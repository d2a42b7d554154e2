/-
  FnBest: for every argument the law of the exchange that tells most returns true and writes nothing that was there. No condition.
-/
import Derived.Test.YtmifhkhanjiklaaDrawTim
import Derived.Test.YtmifhkhanjiklaaTimC
import Derived.Test.YtmifhkhanjiklaaImp15d
import Derived.Test.YtmifhkhanjiklaaTimLaws
import Derived.Test.YtmifhkhanjiklaaShut
import Derived.Lib.QuietBelow
namespace Go.Proofs.Ytmifhkhanjiklaa
open Go.RowKit Go.ChangeShapes Go.WideShapes Go.ChangeAt

set_option maxRecDepth 100000 in
set_option maxHeartbeats 8000000 in
theorem walk_FnBest {A : Option Addr} {n c : Nat} {zs : List Int} {w : World} (h : Has w A n (ints .u8 zs)) (hwf : ∀ z ∈ zs, (Lit.int .u8 z).wf = true) (hc : n ≤ c ∧ c ≤ maxLen) :
    Calls Try.prog 6 #[.slice A n c] w fun e w' => e = .returned (.bool true) ∧ Below w.heap.size w w' := by
  have hu : U8s zs := fun z hz => u8_of_wf (hwf z hz)
  clear hwf
  by_cases hn : n ≤ 1048576
  rotate_left
  · go_enter Try.func6, Try.ntmps6
    go_wp2
    go_ret
    exact ⟨rfl, Below.refl _ _⟩
  go_enter Try.func6, Try.ntmps6
  go_wp2_with (fail)
  refine (drawBestOf_any h hu hc).mono ?_
  rintro e w1 ⟨B, m, d, xs, rfl, H, hm, B1⟩
  have S1 : w.heap.size ≤ w1.heap.size := B1.size
  have C1 := B1
  have HLN := Lib.hid H.1
  obtain ⟨r, hr⟩ : ∃ r, bestI xs = r := ⟨_, rfl⟩
  have bB : (r != r) = false := by simp
  go_wp2_with (fail)
  refine (implBestOf_r H (by omega) hr).mono ?_
  rintro e w2 ⟨rfl, B2⟩
  have S2 : w1.heap.size ≤ w2.heap.size := B2.size
  have C2 := bel_trans C1 B2
  have H_2 := H.bel B2
  by_cases hok : exsOk xs
  rotate_left
  · have hr1 : bestI xs = -1 := if_neg hok
    obtain rfl : r = -1 := by rw [← hr]; exact hr1
    clear hok hr1
    go_wp2_with (fail)
    refine (specBestOf_r H_2 (by omega) hr).mono ?_
    rintro e w3 ⟨rfl, B3⟩
    have S3 : w2.heap.size ≤ w3.heap.size := B3.size
    have C3 := bel_trans C2 B3
    have H_3 := H_2.bel B3
    go_wp2_with (fail)
    refine (specBestOf_r H_3 (by omega) hr).mono ?_
    rintro e w4 ⟨rfl, B4⟩
    have S4 : w3.heap.size ≤ w4.heap.size := B4.size
    have C4 := bel_trans C3 B4
    have H_4 := H_3.bel B4
    go_wp2
    go_ret
    exact ⟨rfl, C4⟩
  have hr2 : bestI xs = (bestX xs (xs.length - 1) : Int) := if_pos hok
  obtain ⟨i, hi⟩ : ∃ i, bestX xs (xs.length - 1) = i := ⟨_, rfl⟩
  have him : i < m := by have := best_le xs (xs.length - 1); have := HLN.out; have := hok.1.1; omega
  have HBM := Lib.hid (fun (j : Nat) (hj : j < xs.length) => (show wayI (dq xs i) ≤ wayI (dq xs j) ∧ (j < i → wayI (dq xs i) < wayI (dq xs j)) by have := best_min xs (xs.length - 1) j (by omega); rwa [hi] at this))
  obtain rfl : r = (i : Int) := by rw [← hr, hr2, hi]
  have i0 : decide ((i : Int) < 0) = false := by simp
  have i1 : (i : Int) < (m : Int) := by omega
  have i2 : (0 : Int) ≤ (i : Int) := by omega
  clear hok hr2 hi
  go_wp2_with (fail)
  refine (specBestOf_r H_2 (by omega) hr).mono ?_
  rintro e w3 ⟨rfl, B3⟩
  have S3 : w2.heap.size ≤ w3.heap.size := B3.size
  have C3 := bel_trans C2 B3
  have H_3 := H_2.bel B3
  have HH := Lib.hid H_3
  go_wp2
  go_loopw [32] (fun t wr => ∃ j : Nat, j ≤ m ∧ t = .int .i64 (j : Int) ∧ Below w3.heap.size w3 wr) (fun t _ => m - (intOf t).toNat)
  case atStart => exact ⟨0, Nat.zero_le _, rfl, Below.refl _ _⟩
  case round =>
    obtain ⟨j, hj, rfl, BW⟩ := hrel
    have sW := BW.size
    by_cases hlt : j < m
    · have hltB : decide ((j : Int) < (m : Int)) = true := by simp; omega
      obtain ⟨bb, o, f, t, g, u, hA, hbl, he, c0, c1, c2, c3⟩ := (HH.out.bel BW).at_ hlt
      obtain ⟨b2, o2, f2, t2, g2, u2, hA2, _, he2, d0, d1, d2, d3⟩ := (HH.out.bel BW).at_ him
      subst hA
      injection hA2 with hA2
      injection hA2 with e1 e2
      subst e1 e2
      have hb := HBM.out j (by have := HLN.out; omega)
      rw [dq_at he, dq_at he2] at hb
      obtain ⟨a, ha⟩ : ∃ a, wayI (f, t, g, u) = a := ⟨_, rfl⟩
      obtain ⟨b, hbb⟩ : ∃ b, wayI (f2, t2, g2, u2) = b := ⟨_, rfl⟩
      rw [ha, hbb] at hb
      obtain ⟨wa, hwa⟩ : ∃ wa, wr.alloc (.cells #[.int .i64 f, .int .i64 t, .int .i64 g, .int .i64 u] 26) = wa := ⟨_, rfl⟩
      have KX : QRow wa wr.heap.size 26 f t g u := hwa ▸ qRow_alloc wr _ f t g u
      have BA : Below wr.heap.size wr wa := hwa ▸ below_allocQ wr _
      have BWA := BW.trans (BA.mono sW)
      have sA := BWA.size
      have r0 := cell_regrown KX.cells.1
      have r1 := cell_regrown KX.cells.2.1
      have r2 := cell_regrown KX.cells.2.2.1
      have r3 := cell_regrown KX.cells.2.2.2
      have q0 := cell_regrown ((BA.cell (p := ⟨bb, o + i * 4, none⟩) hbl).trans d0)
      have q1 := cell_regrown ((BA.cell (p := ⟨bb, o + i * 4 + 1, none⟩) hbl).trans d1)
      have q2 := cell_regrown ((BA.cell (p := ⟨bb, o + i * 4 + 2, none⟩) hbl).trans d2)
      have q3 := cell_regrown ((BA.cell (p := ⟨bb, o + i * 4 + 3, none⟩) hbl).trans d3)
      have cR1 := fun d os => Calls.regrown_of (d := d) (os := os) (w := wa) (implWayOf_r ha)
      have cR2 := fun d os => Calls.regrown_of (d := d) (os := os) (w := wa) (implWayOf_r hbb)
      have s1 : decide (a < b) = false := decide_eq_false (by omega)
      by_cases hab : a = b
      · have s2 : (a == b) = true := by simp [hab]
        have s3 : decide ((j : Int) < (i : Int)) = false := decide_eq_false (by omega)
        have s4 : decide (j < i) = false := decide_eq_false (by omega)
        clear hab hb ha hbb he he2 BA KX d0 d1 d2 d3
        go_wp2
        refine wp_region_quiet_below (by kernel_rfl) (by kernel_rfl) ?_
        repeat ((with_reducible refine wpQuiet_step (fun K hK => ?_)); go_simp; first | (with_reducible refine hK _ ?_; clear hK K) | (rw [if_neg (by intro hh; cases hh)]; (with_reducible refine hK _ ?_); clear hK K) | ((apply Exists.intro); (with_reducible refine ⟨fun _ => ?_, hK _ ?_⟩); (first | (with_reducible exact cR1 _ _) | (with_reducible exact cR2 _ _)); clear hK K))
        (with_reducible refine wpQuiet_nil ?_)
        intro w5 hw'
        obtain ⟨⟨dq', osq⟩, hw''⟩ := hw'
        have B5 : Below wa.heap.size wa w5 := hw'' ▸ below_regrown wa dq' osq
        clear hw''
        have B6 := BWA.trans (B5.mono sA)
        go_wp2
        go_roundw
        case rel => exact ⟨j + 1, by omega, by go_num, B6⟩
        case measure => simp [intOf]; omega
      · have s2 : (a == b) = false := by simp [hab]
        clear hab hb ha hbb he he2 BA KX d0 d1 d2 d3
        go_wp2
        refine wp_region_quiet_below (by kernel_rfl) (by kernel_rfl) ?_
        repeat ((with_reducible refine wpQuiet_step (fun K hK => ?_)); go_simp; first | (with_reducible refine hK _ ?_; clear hK K) | (rw [if_neg (by intro hh; cases hh)]; (with_reducible refine hK _ ?_); clear hK K) | ((apply Exists.intro); (with_reducible refine ⟨fun _ => ?_, hK _ ?_⟩); (first | (with_reducible exact cR1 _ _) | (with_reducible exact cR2 _ _)); clear hK K))
        (with_reducible refine wpQuiet_nil ?_)
        intro w5 hw'
        obtain ⟨⟨dq', osq⟩, hw''⟩ := hw'
        have B5 : Below wa.heap.size wa w5 := hw'' ▸ below_regrown wa dq' osq
        clear hw''
        have B6 := BWA.trans (B5.mono sA)
        go_wp2
        go_roundw
        case rel => exact ⟨j + 1, by omega, by go_num, B6⟩
        case measure => simp [intOf]; omega
    · have hltB : decide ((j : Int) < (m : Int)) = false := by simp; omega
      go_wp2
      go_ret
      exact ⟨rfl, bel_trans C3 BW⟩
set_option maxRecDepth 100000 in
theorem lifted_FnBest (os : Os) (started : os.Started) (H : Type) (enc : TypeId × Value → H) :
    ReturnsInHanded {} Try.checked os 6 .any (Rows.fnBestSpec.pre6 enc Try.prog Try.f6 Rows.fnBestRow.domain false) (Rows.fnBestSpec.post enc Try.prog Try.f6 false true false false) := by
  refine returnsInHanded_of_change (C := Try.checked) (by kernel_rfl) started (by kernel_rfl) Try.func6
    (ChangeSpec.witness6 (enc := enc) (C := Try.checked) false ⟨#[], #[.slice none 0 0], []⟩ 8 (by kernel_rfl) (by kernel_rfl) (by kernel_rfl) (by kernel_rfl)) ?_
  intro W base args ds gs before hval0 hW hcnd _
  have hval : ∀ (j : Nat) t v, Try.f6.params[j]? = some t → args[j]? = some v → Value.okWide Try.prog W .any base t v := hval0
  have hW' := hW
  obtain ⟨p, q, hA0, hV, rfl, hfz, hnd⟩ := hW
  have hA : DataW.TrodAll enc Try.prog W 0 (fun _ => true) true Try.f6.params.toList args.toList ds p := hA0
  rw [Try.params6] at hA hval
  obtain ⟨v0, vs0, d0, ds0, p0, q0, hargs, rfl, rfl, h0, r0⟩ := trodAll_cons hA
  obtain ⟨rfl, rfl, rfl⟩ := trodAll_nil r0
  obtain rfl : args = #[v0] := by cases args; simp_all
  obtain ⟨rfl, rfl⟩ := trodVars_none hV
  obtain ⟨a0, len0, cap0, rfl⟩ := okWide_slice Try.underlying22 (hval 0 22 v0 rfl rfl)
  have k0 := h0
  have lt0 : ∀ x ∈ p0, x.block < W.heap.size := by obtain ⟨m, hm⟩ := k0; exact DataW.trod_lt m _ _ _ hm
  obtain ⟨z0, H0, U0, M0⟩ := has_of_trod (k := .u8) Try.underlying22 Try.underlying5 (by kernel_rfl) h0
  clear hA0 hval0
  refine (walk_FnBest H0 U0 M0).mono fun e W' ⟨he, bel⟩ => ?_
  subst he
  exact ⟨_, rfl, _, _, _, [], _, [], hW', trodAll_mk1 (shut_bool Try.underlying4 _), (trodAll_cons_mk (Below.trod (by kernel_rfl) (by kernel_rfl) (of_decide_eq_true (by kernel_rfl)) k0 bel lt0) trodAll_mk0), rfl, bel.frame _, fun h => by cases h⟩

theorem fnBest_holds : Rows.FnBestSaid :=
  OpenClaim.holds_of_wide 6 Try.f6 rfl rfl rfl rfl rfl rfl rfl ⟨rfl, rfl, rfl, rfl, rfl⟩ rfl rfl rfl rfl rfl (by kernel_rfl) Try.func6
    (by unfold joinedFacts; with_reducible refine Bool.and_eq_true_iff.2 ⟨?_, (by as_aux_lemma => kernel_rfl)⟩; with_reducible refine Bool.and_eq_true_iff.2 ⟨?_, (by as_aux_lemma => kernel_rfl)⟩; with_reducible refine Bool.and_eq_true_iff.2 ⟨?_, (by as_aux_lemma => kernel_rfl)⟩; with_reducible refine Bool.and_eq_true_iff.2 ⟨?_, (by as_aux_lemma => kernel_rfl)⟩; with_reducible refine Bool.and_eq_true_iff.2 ⟨?_, (by with_unfolding_all exact shutMake)⟩; with_reducible refine Bool.and_eq_true_iff.2 ⟨?_, (by with_unfolding_all exact shutLifts)⟩; with_reducible refine Bool.and_eq_true_iff.2 ⟨?_, shutEnter⟩; (repeat (with_reducible refine Bool.and_eq_true_iff.2 ⟨?_, (by as_aux_lemma => kernel_rfl)⟩)); as_aux_lemma => kernel_rfl)
    (of_decide_eq_true (by kernel_rfl)) (by unfold Func.isWrapper; first | (rw [if_pos (by decide +kernel)]; kernel_rfl) | (rw [if_neg (by decide +kernel)]; exact ⟨rfl, rfl⟩))
    (fun os started H enc _ => lifted_FnBest os started H enc)
end Go.Proofs.Ytmifhkhanjiklaa
