/-
  FnFairAlone: for every argument the law of one class alone returns true and writes nothing that was there. No condition.
-/
import Derived.Test.YtpofkkenbepjpaaDrawJob
import Derived.Test.YtpofkkenbepjpaaImp12f
import Derived.Test.YtpofkkenbepjpaaImp12i
import Derived.Test.YtpofkkenbepjpaaMathJobD
import Derived.Test.YtpofkkenbepjpaaWnInts
import Derived.Test.YtpofkkenbepjpaaJobX
import Derived.Test.YtpofkkenbepjpaaShut
import Derived.WalkSmall
import Derived.BigRegion
import Derived.BigQuiet
namespace Go.Proofs.Ytpofkkenbepjpaa
open Go.RowKit Go.ChangeShapes Go.WideShapes Go.ChangeAt

def ofC (js : List Duo) (cc : Int) (k : Nat) : List Duo := (js.take k).filter (fun j => decide (j.1 = cc))
theorem ofC_yes {js : List Duo} {cc : Int} {k : Nat} {f t : Int} (hx : js[k]? = some (f, t)) (h : f = cc) : ofC js cc (k + 1) = ofC js cc k ++ [(f, t)] := by
  unfold ofC
  rw [List.take_add_one, hx, List.filter_append]
  simp [h]
theorem ofC_no {js : List Duo} {cc : Int} {k : Nat} {f t : Int} (hx : js[k]? = some (f, t)) (h : f ≠ cc) : ofC js cc (k + 1) = ofC js cc k := by
  unfold ofC
  rw [List.take_add_one, hx, List.filter_append]
  simp [h]
theorem ofC_all {js : List Duo} {cc : Int} {k : Nat} : ∀ j ∈ ofC js cc k, j.1 = cc := by
  intro j hj
  unfold ofC at hj
  rw [List.mem_filter] at hj
  simpa using hj.2

set_option maxRecDepth 100000 in
set_option maxHeartbeats 8000000 in
theorem walk_FnFairAlone {A : Option Addr} {n c : Nat} {zs : List Int} {w : World} (h : Has w A n (ints .u8 zs)) (hwf : ∀ z ∈ zs, (Lit.int .u8 z).wf = true) (hc : n ≤ c ∧ c ≤ maxLen) :
    Calls Try.prog 5 #[.slice A n c] w fun e w' => e = .returned (.bool true) ∧ Below w.heap.size w w' := by
  have hu : U8s zs := fun z hz => u8_of_wf (hwf z hz)
  clear hwf
  by_cases hn : n ≤ 1048576
  rotate_left
  · go_enter Try.func5, Try.ntmps5
    go_wp2
    go_ret
    exact ⟨rfl, Below.refl _ _⟩
  go_enter Try.func5, Try.ntmps5
  obtain ⟨j0, hji, jz0, jz1, jz2⟩ := info_partsD Try.infoJobD
  go_wp2_with (fail)
  refine (drawFairOrder_any h hu hc).mono ?_
  rintro e w1 ⟨A1, n1, c1, ws, A2, m1, d1, js, rfl, H1, H2, hn1, hm1, B1⟩
  have HL := Lib.hid H1.len
  have HJ := Lib.hid H2.1
  by_cases h0 : n1 = 0
  · have hR : fairL ws js = [] := by
      unfold fairL
      rw [if_neg]
      intro hok
      have h1 := hok.2.1.2.1
      have h2 := HL.out
      omega
    subst h0
    go_wp2_with (fail)
    refine (implFairOrder_r H1 H2 (by omega) (by omega) hR).mono ?_
    rintro e w2 ⟨AG, nG, cG, rfl, OG, B2⟩
    have hg : nG = 0 := OG.has.len.symm
    subst hg
    go_wp2
    go_ret
    exact ⟨rfl, bel_trans B1 B2⟩
  have g0 : ((n1 : Int) == 0) = false := by simp; omega
  obtain ⟨cc, hmod⟩ : ∃ cc, Int.tmod (n : Int) (n1 : Int) = cc := ⟨_, rfl⟩
  have hmod2 : (n : Int) % (n1 : Int) = cc := by rw [← hmod, Int.tmod_eq_emod_of_nonneg (by omega)]
  have E1 : OwnD (w1.alloc (.cells #[] 31)) w1.heap.size 31 (some ⟨w1.heap.size, 0, none⟩) 0 0 [] := World.ownsRow_lit w1 #[] 0 (Nat.le_refl _) (by unfold maxLen; omega) rfl
  have B0 : Below w1.heap.size w1 (w1.alloc (.cells #[] 31)) := below_allocJ w1 _
  go_wp2
  go_loopw [5, 29] (fun v t wr => ∃ (k q : Nat) (A' : Option Addr) (c' : Nat), k ≤ m1 ∧ t = .int .i64 (k : Int) ∧ v = .slice A' q c' ∧ q ≤ k ∧ OwnD wr w1.heap.size 31 A' q c' (ofC js cc k) ∧ Below w1.heap.size w1 wr) (fun _ t _ => m1 - (intOf t).toNat)
  case atStart => exact ⟨0, 0, _, _, Nat.zero_le _, rfl, rfl, Nat.le_refl _, E1, B0⟩
  case round =>
    clear E1 B0
    obtain ⟨k, q, A3, c3, hk, rfl, rfl, hq, O3, BK⟩ := hrel
    have sK := BK.size
    by_cases hlt : k < m1
    · have hltB : decide ((k : Int) < (m1 : Int)) = true := by simp; omega
      obtain ⟨b1, o1, f, t, rfl, hbl1, hx, e0, e1⟩ := (H2.bel BK).at_ hlt
      have BA := BK.alloc sK (.cells #[.int .i64 f, .int .i64 t] 31)
      have sA : w1.heap.size ≤ (wr.alloc (.cells #[.int .i64 f, .int .i64 t] 31)).heap.size := BA.size
      have OQ := fun m : Nat => O3.bel ((below_allocJ wr (.cells #[.int .i64 f, .int .i64 t] 31)).trans (below_drewN _ m))
      have BQ := Lib.hid (fun m : Nat => BA.trans (below_drewN _ m))
      have SQ := Lib.hid (fun m : Nat => show ((wr.alloc (.cells #[.int .i64 f, .int .i64 t] 31)).drewN m).heap.size = wr.heap.size + 1 by simp)
      by_cases hf : f = cc
      · have fB : (f == cc) = true := by simp [hf]
        have HT := Lib.hid (ofC_yes hx hf)
        clear hf hx
        go_wp2
        go_quiet (fail)
        go_wp2_with (at_builtin; refine wpList_appD _ rfl (.tmp 41) (.tmp 43) 24 rfl w1.heap.size 31 j0 (.agg #[.int .i64 0, .int .i64 0]) 16 Try.underlying24 hji jz0 jz1 jz2 rfl A3 q c3 (ofC js cc k) rfl (OQ _) f t 1 (by rw [SQ.out]; rfl) (by omega) (by decide) (BQ.out _).size ?_; intro g7 c7 w7 O7 G7)
        have B7 := below_of_grown G7 (BQ.out _).size (fun b hb => ownD_ge (OQ 0) b hb)
        rw [← HT.out] at O7
        go_roundw
        case rel => exact ⟨k + 1, q + 1, _, _, by omega, by go_num, rfl, by omega, O7, (BQ.out _).trans B7⟩
        case measure => simp [intOf]; omega
      · have fB : (f == cc) = false := by simp [hf]
        have HT := Lib.hid (ofC_no hx hf)
        clear hf hx
        go_wp2
        go_quiet (fail)
        go_wp2
        go_roundw
        case rel => exact ⟨k + 1, q, _, _, by omega, by go_num, rfl, by omega, by rw [HT.out]; exact OQ _, BQ.out _⟩
        case measure => simp [intOf]; omega
    · have hltB : decide ((k : Int) < (m1 : Int)) = false := by simp; omega
      obtain ⟨F, hF⟩ : ∃ F, fairL ws (ofC js cc k) = F := ⟨_, rfl⟩
      have hS : strictL ws (ofC js cc k) = F := by rw [← hF, fair_alone cc ofC_all]
      have H1k := H1.bel BK
      have H3k := O3.has
      go_wp2_with (fail)
      refine (implFairOrder_r H1k H3k (by omega) (by omega) hF).mono ?_
      rintro e w2 ⟨AG, nG, cG, rfl, OG, B2⟩
      have C2 := bel_trans BK B2
      go_wp2_with (fail)
      refine (implStrictOrder_r (H1k.bel B2) (H3k.bel B2) (by omega) (by omega) hS).mono ?_
      rintro e w3 ⟨AX, nX, cX, rfl, OX, B3⟩
      have C3 := bel_trans C2 B3
      have OG3 := OG.bel B3
      go_wp2_with (fail)
      refine (specFairOrder_r ((H1k.bel B2).bel B3) ((H3k.bel B2).bel B3) (by omega) (by omega) hF).mono ?_
      rintro e w4 ⟨AW, nW, cW, rfl, OW, B4⟩
      have C4 := bel_trans C3 B4
      have OG4 := OG3.bel B4
      have OX4 := OX.bel B4
      have hGl := OG4.has.len
      have hFl := fair_few ws (ofC js cc k)
      rw [hF] at hFl
      go_wp2_with (fail)
      refine (wnInts_same OG4.has OW.has (by omega)).mono ?_
      rintro e w5 ⟨rfl, B5⟩
      have C5 := bel_trans C4 B5
      go_wp2_with (fail)
      refine (wnInts_same (OG4.bel B5).has (OX4.bel B5).has (by omega)).mono ?_
      rintro e w6 ⟨rfl, B6⟩
      go_wp2
      go_ret
      exact ⟨rfl, bel_trans B1 (bel_trans C5 B6)⟩
set_option maxRecDepth 100000 in
theorem lifted_FnFairAlone (os : Os) (started : os.Started) (H : Type) (enc : TypeId × Value → H) :
    ReturnsInHanded {} Try.checked os 5 .any (Rows.fnFairAloneSpec.pre6 enc Try.prog Try.f5 Rows.fnFairAloneRow.domain false) (Rows.fnFairAloneSpec.post enc Try.prog Try.f5 false true false false) := by
  refine returnsInHanded_of_change (C := Try.checked) (by kernel_rfl) started (by kernel_rfl) Try.func5
    (ChangeSpec.witness6 (enc := enc) (C := Try.checked) false ⟨#[], #[.slice none 0 0], []⟩ 8 (by kernel_rfl) (by kernel_rfl) (by kernel_rfl) (by kernel_rfl)) ?_
  intro W base args ds gs before hval0 hW hcnd _
  have hval : ∀ (j : Nat) t v, Try.f5.params[j]? = some t → args[j]? = some v → Value.okWide Try.prog W .any base t v := hval0
  have hW' := hW
  obtain ⟨p, q, hA0, hV, rfl, hfz, hnd⟩ := hW
  have hA : DataW.TrodAll enc Try.prog W 0 (fun _ => true) true Try.f5.params.toList args.toList ds p := hA0
  rw [Try.params5] at hA hval
  obtain ⟨v0, vs0, d0, ds0, p0, q0, hargs, rfl, rfl, h0, r0⟩ := trodAll_cons hA
  obtain ⟨rfl, rfl, rfl⟩ := trodAll_nil r0
  obtain rfl : args = #[v0] := by cases args; simp_all
  obtain ⟨rfl, rfl⟩ := trodVars_none hV
  obtain ⟨a0, len0, cap0, rfl⟩ := okWide_slice Try.underlying22 (hval 0 22 v0 rfl rfl)
  have k0 := h0
  have lt0 : ∀ x ∈ p0, x.block < W.heap.size := by obtain ⟨m, hm⟩ := k0; exact DataW.trod_lt m _ _ _ hm
  obtain ⟨z0, H0, U0, M0⟩ := has_of_trod (k := .u8) Try.underlying22 Try.underlying5 (by kernel_rfl) h0
  clear hA0 hval0
  refine (walk_FnFairAlone H0 U0 M0).mono fun e W' ⟨he, bel⟩ => ?_
  subst he
  exact ⟨_, rfl, _, _, _, [], _, [], hW', trodAll_mk1 (shut_bool Try.underlying4 _), (trodAll_cons_mk (Below.trod (by kernel_rfl) (by kernel_rfl) (of_decide_eq_true (by kernel_rfl)) k0 bel lt0) trodAll_mk0), rfl, bel.frame _, fun h => by cases h⟩

theorem fnFairAlone_holds : Rows.FnFairAloneSaid :=
  OpenClaim.holds_of_wide 5 Try.f5 rfl rfl rfl rfl rfl rfl rfl ⟨rfl, rfl, rfl, rfl, rfl⟩ rfl rfl rfl rfl rfl (by kernel_rfl) Try.func5
    (by unfold joinedFacts; with_reducible refine Bool.and_eq_true_iff.2 ⟨?_, (by as_aux_lemma => kernel_rfl)⟩; with_reducible refine Bool.and_eq_true_iff.2 ⟨?_, (by as_aux_lemma => kernel_rfl)⟩; with_reducible refine Bool.and_eq_true_iff.2 ⟨?_, (by as_aux_lemma => kernel_rfl)⟩; with_reducible refine Bool.and_eq_true_iff.2 ⟨?_, (by as_aux_lemma => kernel_rfl)⟩; with_reducible refine Bool.and_eq_true_iff.2 ⟨?_, (by with_unfolding_all exact shutMake)⟩; with_reducible refine Bool.and_eq_true_iff.2 ⟨?_, (by with_unfolding_all exact shutLifts)⟩; with_reducible refine Bool.and_eq_true_iff.2 ⟨?_, shutEnter⟩; (repeat (with_reducible refine Bool.and_eq_true_iff.2 ⟨?_, (by as_aux_lemma => kernel_rfl)⟩)); as_aux_lemma => kernel_rfl)
    (of_decide_eq_true (by kernel_rfl)) (by unfold Func.isWrapper; first | (rw [if_pos (by decide +kernel)]; kernel_rfl) | (rw [if_neg (by decide +kernel)]; exact ⟨rfl, rfl⟩))
    (fun os started H enc _ => lifted_FnFairAlone os started H enc)
end Go.Proofs.Ytpofkkenbepjpaa
