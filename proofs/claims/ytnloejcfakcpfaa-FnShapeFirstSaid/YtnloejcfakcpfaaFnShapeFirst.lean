/-
  FnShapeFirst: for every argument the law that no frame goes on a step sooner returns true and writes nothing that was there. No condition.
-/
import Derived.Test.YtnloejcfakcpfaaImp14e
import Derived.Test.YtnloejcfakcpfaaShpC
import Derived.Test.YtnloejcfakcpfaaShpY
import Derived.Test.YtnloejcfakcpfaaShut
namespace Go.Proofs.Ytnloejcfakcpfaa
open Go.RowKit Go.ChangeShapes Go.WideShapes Go.ChangeAt

theorem ints_one14 (k : IntKind) (xs : List Int) : ∀ u ∈ ints k xs, u.oneCell' = true := by
  intro u hu
  obtain ⟨_, _, rfl⟩ := List.mem_map.1 hu
  rfl
theorem dj_take {hs : List Duo} {k i : Nat} (h : i < k) : dj (hs.take k) i = dj hs i := by
  unfold dj; rw [List.getD_eq_getElem?_getD, List.getD_eq_getElem?_getD, List.getElem?_take_of_lt h]
theorem atTo_take (hs : List Duo) (ts : List Int) (k : Nat) : atTo (hs.take k) ts k = atTo hs ts k := by
  unfold atTo
  exact List.map_congr_left fun i hi => by rw [dj_take (by simpa using hi)]
theorem getD_front {xs : List Int} {x : Int} {k i : Nat} (h : i < k) (hk : k ≤ xs.length) : (xs.take k ++ [x]).getD i 0 = xs.getD i 0 := by
  rw [List.getD_eq_getElem?_getD, List.getD_eq_getElem?_getD, List.getElem?_append_left (by simp; omega), List.getElem?_take_of_lt h]
theorem getD_end {xs : List Int} {x : Int} {k : Nat} (hk : k ≤ xs.length) : (xs.take k ++ [x]).getD k 0 = x := by
  have hl : (xs.take k).length = k := by simp; omega
  rw [List.getD_eq_getElem?_getD, List.getElem?_append_right (by omega), hl, Nat.sub_self]
  rfl
set_option maxRecDepth 100000 in
set_option maxHeartbeats 8000000 in
theorem walk_FnShapeFirst {A : Option Addr} {n c : Nat} {zs : List Int} {w : World} (h : Has w A n (ints .u8 zs)) (hwf : ∀ z ∈ zs, (Lit.int .u8 z).wf = true) (hc : n ≤ c ∧ c ≤ maxLen) :
    Calls Try.prog 6 #[.slice A n c] w fun e w' => e = .returned (.bool true) ∧ Below w.heap.size w w' := by
  have hu : U8s zs := fun z hz => u8_of_wf (hwf z hz)
  obtain ⟨i0, hi, hz0, hz1, hz2⟩ := info_parts Try.infoInt
  clear hwf
  by_cases hn : n ≤ 1048576
  rotate_left
  · go_enter Try.func6, Try.ntmps6
    go_wp2
    go_ret
    exact ⟨rfl, Below.refl _ _⟩
  go_enter Try.func6, Try.ntmps6
  go_wp2_with (fail)
  refine (drawShapePulses_any h hu hc).mono ?_
  rintro e w1 ⟨a, b, B, m, d, js, rfl, H1, hmd, h21, B1⟩
  obtain ⟨L, hL⟩ : ∃ L, shpI a b js = L := ⟨_, rfl⟩
  have HL := Lib.hid hL
  have HLN := Lib.hid H1.1
  clear hL hn
  go_wp2_with (fail)
  refine (implShapePulses_r H1 (by omega) HL.out).mono ?_
  rintro e w2 ⟨A2, n2, c2, rfl, O2, B2⟩
  have hn2 : n2 ≤ 60 := by have h1 := O2.has.len; rw [← HL.out] at h1; have := shp_few a b js; omega
  have C2 := bel_trans B1 B2
  have H2 := H1.bel B2
  go_wp2_with (fail)
  refine (specShapePulses_r H2 (by omega) HL.out).mono ?_
  rintro e w3 ⟨A3, n3, c3, rfl, O3, B3⟩
  have hn3 : n3 ≤ 60 := by have h1 := O3.has.len; rw [← HL.out] at h1; have := shp_few a b js; omega
  have C3 := bel_trans C2 B3
  have H3 := H2.bel B3
  have P3 := O2.bel B3
  clear H1 H2 B1 B2 B3 C2 O2
  go_wp2_with (fail)
  refine (wnInts_dec P3.has O3.has (by omega) (by omega) (decide_eq_true rfl)).mono ?_
  rintro e w3 ⟨rfl, rfl⟩
  by_cases hz : n2 = 0
  · subst hz
    clear O3 hn3
    go_wp2
    go_loop [32] (fun i => i = .int .i64 0) (fun _ => 0)
    case atStart => rfl
    case round =>
      subst hrel
      go_wp2
      go_ret
      exact ⟨rfl, C3⟩
  clear O3 hn3
  have hlen := P3.has.len
  have HOK : Hid (shOk a b js ∧ sizOk b js) := by
    have : shOk a b js ∧ sizOk b js := by
      refine Classical.byContradiction fun hh => ?_
      rw [← HL.out] at hlen
      unfold shpI at hlen
      rw [if_neg hh] at hlen
      simp at hlen
      omega
    exact this
  have HLL := Lib.hid (show shpTo a b js js.length = L by rw [← HL.out]; unfold shpI; rw [if_pos HOK.out])
  have hnm : n2 = m := by rw [← HLL.out, shpTo_len, HLN.out] at hlen; omega
  subst hnm
  have hlm := HLN.out
  have P := P3.has
  have HAT : Hid (∀ i z, L[i]? = some z → z = shT a b js i ∧ i < js.length) := fun i z hz2 => by
    have hi : i < js.length := by have := (List.getElem?_eq_some_iff.1 hz2).1; rw [← HLL.out, shpTo_len] at this; exact this
    rw [← HLL.out, shpTo_at _ _ _ hi] at hz2
    injection hz2 with hz2
    exact ⟨hz2.symm, hi⟩
  have hge0 := C3.size
  obtain ⟨g2, hA2, hg2a, hg2b⟩ : ∃ g, A2 = some ⟨g, 0, none⟩ ∧ w1.heap.size ≤ g ∧ g < w3.heap.size := by
    obtain ⟨g, hA, h1, h2⟩ := P3.head (by omega)
    exact ⟨g, hA, h1, h2⟩
  subst hA2
  have hcap := P3.cap
  clear hlen hz hg2a hg2b
  have HP := Lib.hid P
  have HH := Lib.hid H3
  have HC := Lib.hid C3
  have DB0 := Below.refl w3.heap.size w3
  clear P H3 C3 P3 hge0
  go_wp2
  go_loopw [32] (fun i wr => ∃ (k : Nat), k ≤ n2 ∧ i = .int .i64 (k : Int) ∧ Below w3.heap.size w3 wr) (fun i _ => n2 - (intOf i).toNat)
  case atStart => exact ⟨0, Nat.zero_le _, rfl, DB0⟩
  case round =>
    clear DB0
    obtain ⟨k, hk, rfl, DB⟩ := hrel
    have hge := DB.size
    by_cases hlt : k < n2
    · have l1 : decide ((k : Int) < (n2 : Int)) = true := decide_eq_true (by omega)
      have P := HP.out.bel DB
      have H := HH.out.bel DB
      obtain ⟨b0, o0, z, hA0, hbl0, hx0, d0⟩ := P.at_ hlt
      injection hA0 with hA0
      injection hA0 with e1 e2
      subst e1 e2
      rw [Nat.zero_add] at d0
      obtain ⟨hzv, _⟩ := HAT.out k z hx0
      obtain ⟨b1, o1, f, t, rfl, hbl1, hx1, c0, c1⟩ := H.at_ hlt
      have hzb := shT_bound HOK.out.1 HOK.out.2 (k := k) (by omega)
      rw [← hzv] at hzb
      have hfe := dj_atS hx1
      by_cases hl : z > 2000
      · have q1 : decide (z > 2000) = true := decide_eq_true hl
        have q2 : decide (2000 < z) = true := decide_eq_true hl
        have C4 := bel_trans HC.out DB
        clear hx0 hx1 hzv hzb hl P H hfe
        go_wp2
        go_ret
        exact ⟨rfl, C4⟩
      have q1 : decide (z > 2000) = false := decide_eq_false hl
      have q2 : decide (2000 < z) = false := decide_eq_false hl
      by_cases hf : z = f
      · subst hf
        have f1 : (z == z) = true := by simp
        clear hx0 hx1 hzv hzb hl P H hfe
        go_wp2
        go_roundw
        case rel => exact ⟨k + 1, by omega, by go_num, DB⟩
        case measure => simp [intOf]; omega
      have f1 : (z == f) = false := by simp [hf]
      cases k with
      | zero =>
        have e0 : ((0 : Nat) : Int) = 0 := rfl
        simp only [Nat.zero_mul, Nat.add_zero] at c0 c1 d0
        rw [e0]
        have E6 := lit_ownS wr
        have hsl := run_frontS (P := Try.prog) (t := 33) (e := 3) (sz := 1) Try.underlying33 (fun _ => by kernel_rfl) (b := g2) (o := 0) (n := n2) (c := c2) (k := 0) (z := 0) (by omega) (by omega)
        have hsl2 := run_frontS (P := Try.prog) (t := 23) (e := 29) (sz := 2) Try.underlying23 (fun _ => by kernel_rfl) (b := b1) (o := o1) (n := n2) (c := d) (k := 1) (z := 1) (by omega) (by omega)
        have wz : IntKind.i64.wrap (z - 1) = z - 1 := IntWalk.i64_in _ (by omega)
        have nz1 : -9223372036854775808 ≤ z - 1 := by omega
        have nz2 : z - 1 ≤ 9223372036854775807 := by omega
        have wk : IntKind.i64.wrap (0 + 1) = 1 := IntWalk.i64_in _ (by omega)
        have F6 := (P.bel (below_allocJ wr (.cells #[] 3))).front14 (k := 0) (by omega)
        have HPL := Lib.hid (show 0 ≤ L.length by have := (List.getElem?_eq_some_iff.1 hx0).1; omega)
        have HNC := Lib.hid (show decide (confP a b (atTo js (L.take (0) ++ [z - 1]) (1))) = false from decide_eq_false (shape_first HOK.out.1 HOK.out.2 (i := 0) (by omega) (by rw [← hzv, hfe]; exact hf) (fun hh => absurd hh (by omega)) (ts := L.take (0) ++ [z - 1]) (fun q hq => by rw [getD_front hq HPL.out, ← HLL.out, shpTo_getD _ _ _ (by omega)]) (by rw [getD_end HPL.out, ← hzv])))
        have B6 : Below w3.heap.size w3 (wr.alloc (.cells #[] 3)) := DB.trans ((below_allocJ wr _).mono hge)
        clear hx0 hx1 hzv hzb hl P hfe hf 
        go_wp2_with (first
          | (at_builtin; refine wpList_app_has _ rfl (.tmp 59) (.tmp 62) 33 rfl wr.heap.size 3 i0 (.int .i64 0) 8 Try.underlying33 hi hz0 hz1 hz2 rfl _ 0 0 _ rfl E6 _ (0) _ _ rfl F6 (ints_one14 _ _) (by omega) (by decide) (by simp) ?_; intro A7 c7 w7 O7 G7 B7; rw [← intsS_app] at O7; simp only [Nat.zero_add, List.nil_append] at O7 ⊢; have s7 : wr.heap.size ≤ w7.heap.size := Nat.le_trans (by simp) G7.size)
          | (at_builtin; refine wpList_apps _ rfl (.tmp 63) (.tmp 66) 33 rfl wr.heap.size 3 i0 (.int .i64 0) 8 Try.underlying33 hi hz0 hz1 hz2 rfl A7 _ c7 _ rfl O7 1 1 #[.int .i64 (z - 1)] rfl rfl (by simp [Value.oneCell']) (by omega) (by omega) (by decide) s7 ?_; intro g8 c8 w8 O8 G8 B8 _))
        have O9 : Own w8 wr.heap.size 3 (some ⟨g8, 0, none⟩) (1) c8 (ints .i64 (L.take (0) ++ [z - 1])) := by rw [intsS_app]; exact O8
        have DB8 := B6.trans ((B7.trans B8).mono hge)
        have F8 := (HH.out.bel DB8).front (k := 1) (by omega)
        refine (wnAtTimes_any F8 O9.has (by omega) (Nat.le_refl _)).mono ?_
        rintro e w9 ⟨A9, c9, rfl, O10, B9⟩
        rw [atTo_take] at O10
        go_wp2_with (fail)
        refine (implConforms_b O10.has (by omega) HNC.out).mono ?_
        rintro e w10 ⟨rfl, B10⟩
        have DB10 := DB8.trans ((bel_trans B9 B10).mono DB8.size)
        clear O7 O8 O9 O10 B7 B8 B9 B10 G7 G8 DB8 F8 E6 F6 hsl hsl2
        go_wp2
        go_roundw
        case rel => exact ⟨1, by omega, by go_num, DB10⟩
        case measure => simp [intOf]; omega
      | succ j =>
        have ek : ((j + 1 : Nat) : Int) = (j : Int) + 1 := by omega
        have ej : ((j : Int) + 1).toNat = j + 1 := by omega
        have p1 : decide ((j : Int) + 1 > 0) = true := decide_eq_true (by omega)
        have p2 : decide (0 < (j : Int) + 1) = true := decide_eq_true (by omega)
        have p3 : decide ((j : Int) + 1 < (n2 : Int)) = true := decide_eq_true (by omega)
        have p4 : (j : Int) < (n2 : Int) := by omega
        have p5 : j < n2 := by omega
        have wj : IntKind.i64.wrap ((j : Int) + 1 - 1) = (j : Int) := by rw [show (j : Int) + 1 - 1 = (j : Int) by omega]; exact IntWalk.i64_in _ (by omega)
        obtain ⟨b2, o2, z2', hA2, _, hx2, d2⟩ := P.at_ (i := j) (by omega)
        injection hA2 with hA2
        injection hA2 with e1 e2
        subst e1 e2
        rw [Nat.zero_add] at d2
        obtain ⟨hzv2, _⟩ := HAT.out j z2' hx2
        rw [ek]
        by_cases hne : z2' = z
        · subst hne
          have m1 : (z2' == z2') = true := by simp
          clear hx0 hx1 hx2 hzv hzv2 hzb hl P H hfe hf
          go_wp2
          go_roundw
          case rel => exact ⟨j + 1 + 1, by omega, by go_num, DB⟩
          case measure => simp [intOf]; omega
        · have m1 : (z2' == z) = false := by simp [hne]
          have E6 := lit_ownS wr
          have hsl := run_frontS (P := Try.prog) (t := 33) (e := 3) (sz := 1) Try.underlying33 (fun _ => by kernel_rfl) (b := g2) (o := 0) (n := n2) (c := c2) (k := j + 1) (z := ((j : Int) + 1)) (by omega) (by omega)
          have hsl2 := run_frontS (P := Try.prog) (t := 23) (e := 29) (sz := 2) Try.underlying23 (fun _ => by kernel_rfl) (b := b1) (o := o1) (n := n2) (c := d) (k := j + 1 + 1) (z := ((j : Int) + 1 + 1)) (by omega) (by omega)
          have wz : IntKind.i64.wrap (z - 1) = z - 1 := IntWalk.i64_in _ (by omega)
          have nz1 : -9223372036854775808 ≤ z - 1 := by omega
          have nz2 : z - 1 ≤ 9223372036854775807 := by omega
          have wk : IntKind.i64.wrap (((j : Int) + 1) + 1) = ((j : Int) + 1 + 1) := IntWalk.i64_in _ (by omega)
          have F6 := (P.bel (below_allocJ wr (.cells #[] 3))).front14 (k := j + 1) (by omega)
          have HPL := Lib.hid (show j + 1 ≤ L.length by have := (List.getElem?_eq_some_iff.1 hx0).1; omega)
          have HNC := Lib.hid (show decide (confP a b (atTo js (L.take (j + 1) ++ [z - 1]) (j + 1 + 1))) = false from decide_eq_false (shape_first HOK.out.1 HOK.out.2 (i := j + 1) (by omega) (by rw [← hzv, hfe]; exact hf) (fun _ => by rw [show j + 1 - 1 = j by omega, ← hzv2, ← hzv]; exact hne) (ts := L.take (j + 1) ++ [z - 1]) (fun q hq => by rw [getD_front hq HPL.out, ← HLL.out, shpTo_getD _ _ _ (by omega)]) (by rw [getD_end HPL.out, ← hzv])))
          have B6 : Below w3.heap.size w3 (wr.alloc (.cells #[] 3)) := DB.trans ((below_allocJ wr _).mono hge)
          clear hx0 hx1 hzv hzb hl P hfe hf hx2 hzv2 hne
          go_wp2_with (first
            | (at_builtin; refine wpList_app_has _ rfl (.tmp 59) (.tmp 62) 33 rfl wr.heap.size 3 i0 (.int .i64 0) 8 Try.underlying33 hi hz0 hz1 hz2 rfl _ 0 0 _ rfl E6 _ (j + 1) _ _ rfl F6 (ints_one14 _ _) (by omega) (by decide) (by simp) ?_; intro A7 c7 w7 O7 G7 B7; rw [← intsS_app] at O7; simp only [Nat.zero_add, List.nil_append] at O7 ⊢; have s7 : wr.heap.size ≤ w7.heap.size := Nat.le_trans (by simp) G7.size)
            | (at_builtin; refine wpList_apps _ rfl (.tmp 63) (.tmp 66) 33 rfl wr.heap.size 3 i0 (.int .i64 0) 8 Try.underlying33 hi hz0 hz1 hz2 rfl A7 _ c7 _ rfl O7 1 1 #[.int .i64 (z - 1)] rfl rfl (by simp [Value.oneCell']) (by omega) (by omega) (by decide) s7 ?_; intro g8 c8 w8 O8 G8 B8 _))
          have O9 : Own w8 wr.heap.size 3 (some ⟨g8, 0, none⟩) (j + 1 + 1) c8 (ints .i64 (L.take (j + 1) ++ [z - 1])) := by rw [intsS_app]; exact O8
          have DB8 := B6.trans ((B7.trans B8).mono hge)
          have F8 := (HH.out.bel DB8).front (k := j + 1 + 1) (by omega)
          refine (wnAtTimes_any F8 O9.has (by omega) (Nat.le_refl _)).mono ?_
          rintro e w9 ⟨A9, c9, rfl, O10, B9⟩
          rw [atTo_take] at O10
          go_wp2_with (fail)
          refine (implConforms_b O10.has (by omega) HNC.out).mono ?_
          rintro e w10 ⟨rfl, B10⟩
          have DB10 := DB8.trans ((bel_trans B9 B10).mono DB8.size)
          clear O7 O8 O9 O10 B7 B8 B9 B10 G7 G8 DB8 F8 E6 F6 hsl hsl2
          go_wp2
          go_roundw
          case rel => exact ⟨j + 1 + 1, by omega, by go_num, DB10⟩
          case measure => simp [intOf]; omega
    · have l1 : decide ((k : Int) < (n2 : Int)) = false := decide_eq_false (by omega)
      have C4 := bel_trans HC.out DB
      go_wp2
      go_ret
      exact ⟨rfl, C4⟩
set_option maxRecDepth 100000 in
theorem lifted_FnShapeFirst (os : Os) (started : os.Started) (H : Type) (enc : TypeId × Value → H) :
    ReturnsInHanded {} Try.checked os 6 .any (Rows.fnShapeFirstSpec.pre6 enc Try.prog Try.f6 Rows.fnShapeFirstRow.domain false) (Rows.fnShapeFirstSpec.post enc Try.prog Try.f6 false true false false) := by
  refine returnsInHanded_of_change (C := Try.checked) (by kernel_rfl) started (by kernel_rfl) Try.func6
    (ChangeSpec.witness6 (enc := enc) (C := Try.checked) false ⟨#[], #[.slice none 0 0], []⟩ 8 (by kernel_rfl) (by kernel_rfl) (by kernel_rfl) (by kernel_rfl)) ?_
  intro W base args ds gs before hval0 hW hcnd _
  have hval : ∀ (j : Nat) t v, Try.f6.params[j]? = some t → args[j]? = some v → Value.okWide Try.prog W .any base t v := hval0
  have hW' := hW
  obtain ⟨p, q, hA0, hV, rfl, hfz, hnd⟩ := hW
  have hA : DataW.TrodAll enc Try.prog W 0 (fun _ => true) true Try.f6.params.toList args.toList ds p := hA0
  rw [Try.params6] at hA hval
  obtain ⟨v0, vs0, d0, ds0, p0, q0, hargs, rfl, rfl, h0, r0⟩ := trodAll_cons hA
  obtain ⟨rfl, rfl, rfl⟩ := trodAll_nil r0
  obtain rfl : args = #[v0] := by cases args; simp_all
  obtain ⟨rfl, rfl⟩ := trodVars_none hV
  obtain ⟨a0, len0, cap0, rfl⟩ := okWide_slice Try.underlying22 (hval 0 22 v0 rfl rfl)
  have k0 := h0
  have lt0 : ∀ x ∈ p0, x.block < W.heap.size := by obtain ⟨m, hm⟩ := k0; exact DataW.trod_lt m _ _ _ hm
  obtain ⟨z0, H0, U0, M0⟩ := has_of_trod (k := .u8) Try.underlying22 Try.underlying5 (by kernel_rfl) h0
  clear hA0 hval0
  refine (walk_FnShapeFirst H0 U0 M0).mono fun e W' ⟨he, bel⟩ => ?_
  subst he
  exact ⟨_, rfl, _, _, _, [], _, [], hW', trodAll_mk1 (shut_bool Try.underlying4 _), (trodAll_cons_mk (Below.trod (by kernel_rfl) (by kernel_rfl) (of_decide_eq_true (by kernel_rfl)) k0 bel lt0) trodAll_mk0), rfl, bel.frame _, fun h => by cases h⟩

theorem fnShapeFirst_holds : Rows.FnShapeFirstSaid :=
  OpenClaim.holds_of_wide 6 Try.f6 rfl rfl rfl rfl rfl rfl rfl ⟨rfl, rfl, rfl, rfl, rfl⟩ rfl rfl rfl rfl rfl (by kernel_rfl) Try.func6
    (by unfold joinedFacts; with_reducible refine Bool.and_eq_true_iff.2 ⟨?_, (by as_aux_lemma => kernel_rfl)⟩; with_reducible refine Bool.and_eq_true_iff.2 ⟨?_, (by as_aux_lemma => kernel_rfl)⟩; with_reducible refine Bool.and_eq_true_iff.2 ⟨?_, (by as_aux_lemma => kernel_rfl)⟩; with_reducible refine Bool.and_eq_true_iff.2 ⟨?_, (by as_aux_lemma => kernel_rfl)⟩; with_reducible refine Bool.and_eq_true_iff.2 ⟨?_, (by with_unfolding_all exact shutMake)⟩; with_reducible refine Bool.and_eq_true_iff.2 ⟨?_, (by with_unfolding_all exact shutLifts)⟩; with_reducible refine Bool.and_eq_true_iff.2 ⟨?_, shutEnter⟩; (repeat (with_reducible refine Bool.and_eq_true_iff.2 ⟨?_, (by as_aux_lemma => kernel_rfl)⟩)); as_aux_lemma => kernel_rfl)
    (of_decide_eq_true (by kernel_rfl)) (by unfold Func.isWrapper; first | (rw [if_pos (by decide +kernel)]; kernel_rfl) | (rw [if_neg (by decide +kernel)]; exact ⟨rfl, rfl⟩))
    (fun os started H enc _ => lifted_FnShapeFirst os started H enc)
end Go.Proofs.Ytnloejcfakcpfaa
