/-
  FnShapeAgain: for every argument the law of frames that are shaped again returns true and writes nothing that was there. No condition.
-/
import Derived.Test.YtnloejcfakcpfaaImp14e
import Derived.Test.YtnloejcfakcpfaaShpC
import Derived.Test.YtnloejcfakcpfaaShpY
import Derived.Test.YtnloejcfakcpfaaShut
namespace Go.Proofs.Ytnloejcfakcpfaa
open Go.RowKit Go.ChangeShapes Go.WideShapes Go.ChangeAt

/-- The times of the first k, and whether one of those goes on too late. -/
def timesTo (hs : List Duo) (k : Nat) : List Int := (List.range k).map (fun i => (dj hs i).1)
theorem timesTo_succ (hs : List Duo) (k : Nat) : timesTo hs (k + 1) = timesTo hs k ++ [(dj hs k).1] := by simp [timesTo, List.range_succ]
theorem timesTo_len (hs : List Duo) (k : Nat) : (timesTo hs k).length = k := by simp [timesTo]
def lateTo (r b : Int) (hs : List Duo) : Nat → Bool
  | 0 => false
  | k + 1 => lateTo r b hs k || decide (shT r b hs k > 2000)
theorem late_no {r b : Int} {hs : List Duo} : ∀ k, lateTo r b hs k = false → ∀ i, i < k → shT r b hs i ≤ 2000
  | 0, _, i, hi => by omega
  | k + 1, h, i, hi => by
    unfold lateTo at h
    obtain ⟨h1, h2⟩ := Bool.or_eq_false_iff.1 h
    by_cases he : i = k
    · subst he; have := of_decide_eq_false h2; omega
    · exact late_no k h1 i (by omega)
theorem own_law {r b : Int} {hs : List Duo} (h : shOk r b hs) (hz : sizOk b hs) : decide (shpTo r b hs hs.length = timesTo hs hs.length) = decide (confP r b hs) := by
  rw [decide_eq_decide, shape_own h hz]
  constructor
  · intro e k hk
    have h1 := shpTo_at r b hs hk
    have h2 : (timesTo hs hs.length)[k]? = some (dj hs k).1 := by simp [timesTo, hk]
    rw [e, h2] at h1
    injection h1 with h1
    exact h1.symm
  · intro hh
    unfold shpTo timesTo
    exact List.map_congr_left fun i hi => hh i (by simpa using hi)
set_option maxRecDepth 100000 in
set_option maxHeartbeats 8000000 in
theorem walk_FnShapeAgain {A : Option Addr} {n c : Nat} {zs : List Int} {w : World} (h : Has w A n (ints .u8 zs)) (hwf : ∀ z ∈ zs, (Lit.int .u8 z).wf = true) (hc : n ≤ c ∧ c ≤ maxLen) :
    Calls Try.prog 7 #[.slice A n c] w fun e w' => e = .returned (.bool true) ∧ Below w.heap.size w w' := by
  have hu : U8s zs := fun z hz => u8_of_wf (hwf z hz)
  obtain ⟨i0, hi, hz0, hz1, hz2⟩ := info_parts Try.infoInt
  clear hwf
  by_cases hn : n ≤ 1048576
  rotate_left
  · go_enter Try.func7, Try.ntmps7
    go_wp2
    go_ret
    exact ⟨rfl, Below.refl _ _⟩
  go_enter Try.func7, Try.ntmps7
  go_wp2_with (fail)
  refine (drawConforms_any h hu hc).mono ?_
  rintro e w1 ⟨a, b, B, m, d, js, rfl, H1, hmd, h21, B1⟩
  obtain ⟨L, hL⟩ : ∃ L, shpI a b js = L := ⟨_, rfl⟩
  have HL := Lib.hid hL
  have HLN := Lib.hid H1.1
  clear hL hn
  go_wp2_with (fail)
  refine (implShapePulses_r H1 (by omega) HL.out).mono ?_
  rintro e w2 ⟨A2, n2, c2, rfl, O2, B2⟩
  have hn2 : n2 ≤ 60 := by have h1 := O2.has.len; rw [← HL.out] at h1; have := shp_few a b js; omega
  have C2 := bel_trans B1 B2
  have H2 := H1.bel B2
  go_wp2_with (fail)
  refine (specShapePulses_r H2 (by omega) HL.out).mono ?_
  rintro e w3 ⟨A3, n3, c3, rfl, O3, B3⟩
  have hn3 : n3 ≤ 60 := by have h1 := O3.has.len; rw [← HL.out] at h1; have := shp_few a b js; omega
  have C3 := bel_trans C2 B3
  have H3 := H2.bel B3
  have P3 := O2.bel B3
  clear H1 H2 B1 B2 B3 C2 O2
  go_wp2_with (fail)
  refine (wnInts_dec P3.has O3.has (by omega) (by omega) (decide_eq_true rfl)).mono ?_
  rintro e w3 ⟨rfl, rfl⟩
  by_cases hz : n2 = 0
  · have z1 : ((n2 : Int) == 0) = true := by simp [hz]
    have z2 : (n2 == 0) = true := by simp [hz]
    clear hz
    go_wp2_with (fail)
    refine (specShapePulses_r H3 (by omega) HL.out).mono ?_
    rintro e w4 ⟨A4, n4, c4, rfl, O4, B4⟩
    go_wp2_with (fail)
    refine (wnInts_dec (P3.bel B4).has O4.has (by omega) (by have h1 := O4.has.len; have h2 := P3.has.len; omega) (decide_eq_true rfl)).mono ?_
    rintro e w4 ⟨rfl, rfl⟩
    go_wp2
    go_ret
    exact ⟨rfl, bel_trans C3 B4⟩
  have z1 : ((n2 : Int) == 0) = false := by simp; omega
  have z2 : (n2 == 0) = false := by simp; omega
  clear O3 hn3
  have hlen := P3.has.len
  have HOK : Hid (shOk a b js ∧ sizOk b js) := by
    have : shOk a b js ∧ sizOk b js := by
      refine Classical.byContradiction fun hh => ?_
      rw [← HL.out] at hlen
      unfold shpI at hlen
      rw [if_neg hh] at hlen
      simp at hlen
      omega
    exact this
  have HLL := Lib.hid (show shpTo a b js js.length = L by rw [← HL.out]; unfold shpI; rw [if_pos HOK.out])
  have hnm : n2 = m := by rw [← HLL.out, shpTo_len, HLN.out] at hlen; omega
  subst hnm
  have hlm := HLN.out
  have P := P3.has
  have HAT : Hid (∀ i z, L[i]? = some z → z = shT a b js i ∧ i < js.length) := fun i z hz2 => by
    have hi : i < js.length := by have := (List.getElem?_eq_some_iff.1 hz2).1; rw [← HLL.out, shpTo_len] at this; exact this
    rw [← HLL.out, shpTo_at _ _ _ hi] at hz2
    injection hz2 with hz2
    exact ⟨hz2.symm, hi⟩
  clear hlen hz
  have T0 : Own (w3.alloc (.cells #[] 3)) w3.heap.size 3 (some ⟨w3.heap.size, 0, none⟩) 0 0 (ints .i64 (timesTo js 0)) := lit_ownS w3
  have DB0 : Below w3.heap.size w3 (w3.alloc (.cells #[] 3)) := below_allocJ w3 _
  have L0 : Hid (lateTo a b js 0 = false) := rfl
  go_wp2
  go_loopw [7, 8, 45] (fun v lt i wr => ∃ (k : Nat) (A' : Option Addr) (c' : Nat) (q : Bool), k ≤ n2 ∧ i = .int .i64 (k : Int) ∧ v = .slice A' k c' ∧ lt = .bool q ∧ Hid (lateTo a b js k = q) ∧ Own wr w3.heap.size 3 A' k c' (ints .i64 (timesTo js k)) ∧ Below w3.heap.size w3 wr) (fun _ _ i _ => n2 - (intOf i).toNat)
  case atStart => exact ⟨0, _, 0, false, Nat.zero_le _, rfl, rfl, rfl, L0, T0, DB0⟩
  case round =>
    clear T0 DB0 L0
    obtain ⟨k, A5, c5, q, hk, rfl, rfl, rfl, HQ, O5, DB⟩ := hrel
    have hge := DB.size
    by_cases hlt : k < n2
    · have l1 : decide ((k : Int) < (n2 : Int)) = true := decide_eq_true (by omega)
      obtain ⟨b0, o0, z, hA0, hbl0, hx0, d0⟩ := P.at_ hlt
      obtain ⟨hzv, _⟩ := HAT.out k z hx0
      obtain ⟨b1, o1, f, t, hA1, hbl1, hx1, c0, c1⟩ := (H3.bel DB).at_ hlt
      have HT := Lib.hid (show timesTo js (k + 1) = timesTo js k ++ [f] by rw [timesTo_succ, dj_atS hx1])
      obtain ⟨g, hg⟩ : ∃ g, decide (z > 2000) = g := ⟨_, rfl⟩
      have hg2 : decide (2000 < z) = g := hg
      have HQ2 : Hid (lateTo a b js (k + 1) = (q || g)) := by
        have : lateTo a b js (k + 1) = (q || g) := by unfold lateTo; rw [HQ.out, ← hzv, hg]
        exact this
      obtain ⟨W5, hW5⟩ : ∃ W, wr.alloc (.cells #[.int .i64 f, .int .i64 t] 29) = W := ⟨_, rfl⟩
      have B5 : Below wr.heap.size wr W5 := hW5 ▸ below_allocJ wr _
      have R5 : W5.heap[wr.heap.size]? = some (.cells #[.int .i64 f, .int .i64 t] 29 (0, 0)) := hW5 ▸ heap_alloc_new wr _
      obtain ⟨r0, r1⟩ := cells2D R5
      have O6 := O5.bel B5
      have DB5 := DB.trans (B5.mono hge)
      have s5 := DB5.size
      have e0 : ∀ W, Below w3.heap.size w3 W → W.cell? ⟨b0, o0 + k, none⟩ = some (.int .i64 z) := fun W hW => (hW.cell (p := ⟨b0, o0 + k, none⟩) hbl0).trans d0
      have HE0 := Lib.hid e0
      have ik : (k : Int) < (n2 : Int) := by omega
      subst hA0 hA1
      clear hx0 hx1 hzv d0 O5 DB B5 R5 e0
      cases q with
      | true =>
        go_wp2_with (at_builtin; refine wpList_apps _ rfl (.tmp 50) (.tmp 53) 33 rfl w3.heap.size 3 i0 (.int .i64 0) 8 Try.underlying33 hi hz0 hz1 hz2 rfl A5 k c5 _ rfl O6 1 1 #[.int .i64 f] rfl rfl (by simp [Value.oneCell']) (by decide) (by omega) (by decide) s5 ?_; intro g7 c7 w7 O7 G7 B7 _; have DB7 := DB5.trans B7; have d7 := HE0.out _ DB7; have O8 : Own w7 w3.heap.size 3 (some ⟨g7, 0, none⟩) (k + 1) c7 (ints .i64 (timesTo js (k + 1))) := (by rw [HT.out, intsS_app]; exact O7))
        go_roundw
        case rel => exact ⟨k + 1, _, _, _, by omega, by go_num, rfl, rfl, HQ2, O8, DB7⟩
        case measure => simp [intOf]; omega
      | false =>
        go_wp2_with (at_builtin; refine wpList_apps _ rfl (.tmp 50) (.tmp 53) 33 rfl w3.heap.size 3 i0 (.int .i64 0) 8 Try.underlying33 hi hz0 hz1 hz2 rfl A5 k c5 _ rfl O6 1 1 #[.int .i64 f] rfl rfl (by simp [Value.oneCell']) (by decide) (by omega) (by decide) s5 ?_; intro g7 c7 w7 O7 G7 B7 _; have DB7 := DB5.trans B7; have d7 := HE0.out _ DB7; have O8 : Own w7 w3.heap.size 3 (some ⟨g7, 0, none⟩) (k + 1) c7 (ints .i64 (timesTo js (k + 1))) := (by rw [HT.out, intsS_app]; exact O7))
        go_roundw
        case rel => exact ⟨k + 1, _, _, _, by omega, by go_num, rfl, rfl, HQ2, O8, DB7⟩
        case measure => simp [intOf]; omega
    · have l1 : decide ((k : Int) < (n2 : Int)) = false := decide_eq_false (by omega)
      obtain rfl : k = n2 := by omega
      have H4 := H3.bel DB
      have P4 := P3.bel DB
      have C4 := bel_trans C3 DB
      obtain ⟨V, hV⟩ : ∃ V, decide (confP a b js) = V := ⟨_, rfl⟩
      have HV2 := Lib.hid (show decide (L = timesTo js k) = V by rw [← hV, ← HLL.out, ← hlm]; exact own_law HOK.out.1 HOK.out.2)
      have HV := Lib.hid hV
      have vB : (V != V) = false := by simp
      clear hV hlt DB H3
      go_wp2_with (fail)
      refine (implConforms_b H4 (by omega) HV.out).mono ?_
      rintro e w5 ⟨rfl, B5⟩
      go_wp2_with (fail)
      refine (wnInts_dec (P4.bel B5).has (O5.bel B5).has (by omega) (by omega) HV2.out).mono ?_
      rintro e w5 ⟨rfl, rfl⟩
      have C5 := bel_trans C4 B5
      have H5 := H4.bel B5
      have P5 := P4.bel B5
      cases q with
      | true =>
        go_wp2
        go_ret
        exact ⟨rfl, C5⟩
      | false =>
        have hag := shape_again HOK.out.1 HOK.out.2 (fun i hi => late_no k HQ.out i (by omega))
        rw [HLL.out, hlm] at hag
        have HAG := Lib.hid hag
        clear hag
        go_wp2_with (fail)
        refine (wnAtTimes_any H5 P5.has (by omega) (Nat.le_refl _)).mono ?_
        rintro e w6 ⟨A6, c6, rfl, O6, B6⟩
        go_wp2_with (fail)
        refine (implShapePulses_r O6.has (by omega) HAG.out).mono ?_
        rintro e w7 ⟨A7, n7, c7, rfl, O7, B7⟩
        go_wp2_with (fail)
        refine (wnInts_dec O7.has ((P5.bel B6).bel B7).has (by have h1 := O7.has.len; have h2 := P5.has.len; omega) (by omega) (decide_eq_true rfl)).mono ?_
        rintro e w7 ⟨rfl, rfl⟩
        go_wp2
        go_ret
        exact ⟨rfl, bel_trans (bel_trans C5 B6) B7⟩
set_option maxRecDepth 100000 in
theorem lifted_FnShapeAgain (os : Os) (started : os.Started) (H : Type) (enc : TypeId × Value → H) :
    ReturnsInHanded {} Try.checked os 7 .any (Rows.fnShapeAgainSpec.pre6 enc Try.prog Try.f7 Rows.fnShapeAgainRow.domain false) (Rows.fnShapeAgainSpec.post enc Try.prog Try.f7 false true false false) := by
  refine returnsInHanded_of_change (C := Try.checked) (by kernel_rfl) started (by kernel_rfl) Try.func7
    (ChangeSpec.witness6 (enc := enc) (C := Try.checked) false ⟨#[], #[.slice none 0 0], []⟩ 8 (by kernel_rfl) (by kernel_rfl) (by kernel_rfl) (by kernel_rfl)) ?_
  intro W base args ds gs before hval0 hW hcnd _
  have hval : ∀ (j : Nat) t v, Try.f7.params[j]? = some t → args[j]? = some v → Value.okWide Try.prog W .any base t v := hval0
  have hW' := hW
  obtain ⟨p, q, hA0, hV, rfl, hfz, hnd⟩ := hW
  have hA : DataW.TrodAll enc Try.prog W 0 (fun _ => true) true Try.f7.params.toList args.toList ds p := hA0
  rw [Try.params7] at hA hval
  obtain ⟨v0, vs0, d0, ds0, p0, q0, hargs, rfl, rfl, h0, r0⟩ := trodAll_cons hA
  obtain ⟨rfl, rfl, rfl⟩ := trodAll_nil r0
  obtain rfl : args = #[v0] := by cases args; simp_all
  obtain ⟨rfl, rfl⟩ := trodVars_none hV
  obtain ⟨a0, len0, cap0, rfl⟩ := okWide_slice Try.underlying22 (hval 0 22 v0 rfl rfl)
  have k0 := h0
  have lt0 : ∀ x ∈ p0, x.block < W.heap.size := by obtain ⟨m, hm⟩ := k0; exact DataW.trod_lt m _ _ _ hm
  obtain ⟨z0, H0, U0, M0⟩ := has_of_trod (k := .u8) Try.underlying22 Try.underlying5 (by kernel_rfl) h0
  clear hA0 hval0
  refine (walk_FnShapeAgain H0 U0 M0).mono fun e W' ⟨he, bel⟩ => ?_
  subst he
  exact ⟨_, rfl, _, _, _, [], _, [], hW', trodAll_mk1 (shut_bool Try.underlying4 _), (trodAll_cons_mk (Below.trod (by kernel_rfl) (by kernel_rfl) (of_decide_eq_true (by kernel_rfl)) k0 bel lt0) trodAll_mk0), rfl, bel.frame _, fun h => by cases h⟩

theorem fnShapeAgain_holds : Rows.FnShapeAgainSaid :=
  OpenClaim.holds_of_wide 7 Try.f7 rfl rfl rfl rfl rfl rfl rfl ⟨rfl, rfl, rfl, rfl, rfl⟩ rfl rfl rfl rfl rfl (by kernel_rfl) Try.func7
    (by unfold joinedFacts; with_reducible refine Bool.and_eq_true_iff.2 ⟨?_, (by as_aux_lemma => kernel_rfl)⟩; with_reducible refine Bool.and_eq_true_iff.2 ⟨?_, (by as_aux_lemma => kernel_rfl)⟩; with_reducible refine Bool.and_eq_true_iff.2 ⟨?_, (by as_aux_lemma => kernel_rfl)⟩; with_reducible refine Bool.and_eq_true_iff.2 ⟨?_, (by as_aux_lemma => kernel_rfl)⟩; with_reducible refine Bool.and_eq_true_iff.2 ⟨?_, (by with_unfolding_all exact shutMake)⟩; with_reducible refine Bool.and_eq_true_iff.2 ⟨?_, (by with_unfolding_all exact shutLifts)⟩; with_reducible refine Bool.and_eq_true_iff.2 ⟨?_, shutEnter⟩; (repeat (with_reducible refine Bool.and_eq_true_iff.2 ⟨?_, (by as_aux_lemma => kernel_rfl)⟩)); as_aux_lemma => kernel_rfl)
    (of_decide_eq_true (by kernel_rfl)) (by unfold Func.isWrapper; first | (rw [if_pos (by decide +kernel)]; kernel_rfl) | (rw [if_neg (by decide +kernel)]; exact ⟨rfl, rfl⟩))
    (fun os started H enc _ => lifted_FnShapeAgain os started H enc)
end Go.Proofs.Ytnloejcfakcpfaa
