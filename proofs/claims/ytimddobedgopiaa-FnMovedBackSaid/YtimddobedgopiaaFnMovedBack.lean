/-
  FnMovedBack: for every argument the law of what moves back returns true and writes nothing that was there. No condition.
-/
import Derived.Test.YtimddobedgopiaaDrawFlow
import Derived.Test.YtimddobedgopiaaImp11d
import Derived.Test.YtimddobedgopiaaShut
namespace Go.Proofs.Ytimddobedgopiaa
open Go.RowKit Go.ChangeShapes Go.WideShapes Go.ChangeAt

theorem set_back {us : List Bool} {K : Nat} {u v : Bool} (hK : K < us.length) (hu : us.getD K false = u) : (us.set K v).getD K false = v ∧ (us.set K v).set K u = us := by
  constructor
  · rw [List.getD_eq_getElem?_getD, List.getElem?_set_self hK]; rfl
  · rw [List.set_set]
    apply List.ext_getElem (by simp)
    intro i h1 h2
    rw [List.getElem_set]
    by_cases e : K = i
    · subst e
      rw [if_pos rfl, ← hu, List.getD_eq_getElem?_getD, List.getElem?_eq_getElem hK]; rfl
    · rw [if_neg e]
theorem movedI_self {us : List Bool} (h : upOk us) : movedI us us = 0 := by
  unfold movedI
  rw [if_pos ⟨h, rfl⟩, movedTo_self]
theorem upOk_set {us : List Bool} {K : Nat} {v : Bool} (h : upOk us) : upOk (us.set K v) := by
  unfold upOk at *
  rw [List.length_set]; exact h

set_option maxRecDepth 100000 in
set_option maxHeartbeats 8000000 in
theorem walk_FnMovedBack {A : Option Addr} {n c : Nat} {zs : List Int} {w : World} (h : Has w A n (ints .u8 zs)) (hwf : ∀ z ∈ zs, (Lit.int .u8 z).wf = true) (hc : n ≤ c ∧ c ≤ maxLen) :
    Calls Try.prog 7 #[.slice A n c] w fun e w' => e = .returned (.bool true) ∧ Below w.heap.size w w' := by
  have hu : U8s zs := fun z hz => u8_of_wf (hwf z hz)
  clear hwf
  by_cases hn : n ≤ 1048576
  rotate_left
  · go_enter Try.func7, Try.ntmps7
    go_wp2
    go_ret
    exact ⟨rfl, Below.refl _ _⟩
  go_enter Try.func7, Try.ntmps7
  obtain ⟨i0, hi, hz0, hz1, hz2⟩ := info_parts Try.infoBool
  go_wp2_with (fail)
  refine (drawMovedFlows_any h hu hc).mono ?_
  rintro e w1 hX
  unfold BoolsT at hX
  obtain ⟨A1, n1, c1, us, A0, n0, c0, vs0, rfl, H1, hn1, _, _, B1⟩ := hX
  have s1 := B1.size
  have hl := has_bools_len H1
  obtain ⟨R, hR⟩ : ∃ R, sharesI us = R := ⟨_, rfl⟩
  go_wp2_with (fail)
  refine (implSharesOf_r H1 (by omega) hR).mono ?_
  rintro e w2 ⟨A2, n2, c2, rfl, O2, B2⟩
  have C2 := bel_trans B1 B2
  have H2 := H1.bel B2
  have hn2 := O2.has.len
  go_wp2_with (fail)
  refine (specSharesOf_r H2 (by omega) hR).mono ?_
  rintro e w3 ⟨A3, n3, c3, rfl, O3, B3⟩
  have C3 := bel_trans C2 B3
  have H3 := H2.bel B3
  have P3 := O2.bel B3
  by_cases hok : upOk us
  rotate_left
  · have hR0 : R = [] := by rw [← hR]; unfold sharesI; rw [if_neg hok]
    obtain rfl : n2 = 0 := by rw [hR0] at hn2; exact hn2.symm
    clear hok
    go_wp2_with (fail)
    refine (wnInts_same P3.has O3.has (by omega)).mono ?_
    rintro e w4 ⟨rfl, B4⟩
    have C4 := bel_trans C3 B4
    have P4 := P3.bel B4
    go_wp2_with (fail)
    refine (specSharesOf_r (H3.bel B4) (by omega) hR).mono ?_
    rintro e w5 ⟨A5, n5, c5, rfl, O5, B5⟩
    have C5 := bel_trans C4 B5
    go_wp2_with (fail)
    refine (wnInts_same (P4.bel B5).has O5.has (by omega)).mono ?_
    rintro e w6 ⟨rfl, B6⟩
    go_wp2
    go_ret
    exact ⟨rfl, bel_trans C5 B6⟩
  have hR1 : R = sharesTo us 225 := by rw [← hR]; unfold sharesI; rw [if_pos hok]
  subst hR1
  rw [sharesTo_len, hl] at hn2
  subst hn2
  have h1 : 1 ≤ n1 := by have := hok.1; omega
  have e0 : ((n1 : Int) == 0) = false := by simp; omega
  go_wp2_with (fail)
  refine (wnInts_same P3.has O3.has (by omega)).mono ?_
  rintro e w4 ⟨rfl, B4⟩
  have C4 := bel_trans C3 B4
  have H4 := H3.bel B4
  have HO := Lib.hid hok
  have HL := Lib.hid hl
  clear hR O2 O3 P3 B1 B2 B3 B4 H1 H2 H3 C2 C3
  obtain ⟨K, hKd⟩ : ∃ K, K = n % n1 := ⟨_, rfl⟩
  have hK : K < n1 := by rw [hKd]; exact Nat.mod_lt _ (by omega)
  have hmod : Int.tmod (n : Int) (n1 : Int) = (K : Int) := by rw [Int.tmod_eq_emod_of_nonneg (by omega), hKd]; exact (Int.natCast_emod n n1).symm
  have hK0 : (0 : Int) ≤ (K : Int) := by omega
  have hK1 : (K : Int) < (n1 : Int) := by omega
  have n10 : (n1 : Int) ≠ 0 := by omega
  have L5 := litB_own w4
  have BL : Below w4.heap.size w4 (w4.alloc (.cells #[] 4)) := (Below.refl _ _).alloc (Nat.le_refl _) _
  obtain ⟨u, hu1⟩ : ∃ u, us.getD K false = u := ⟨_, rfl⟩
  have HM0 := Lib.hid (movedI_self hok)
  clear hKd hok hl
  have HU := Lib.hid hu1
  cases u
  · obtain ⟨t1, t2⟩ := set_back (v := true) (show K < us.length by rw [HL.out]; exact hK) hu1
    have T1 := Lib.hid t1
    have T2 := Lib.hid t2
    have HV := Lib.hid (upOk_set (K := K) (v := true) HO.out)
    clear t1 t2 hu1
    go_wp2_with (first | (at_builtin; refine wpList_app_has _ rfl (.tmp 33) (.tmp 34) 27 rfl w4.heap.size 4 i0 (.bool false) 1 Try.underlying27 hi hz0 hz1 hz2 rfl (some ⟨w4.heap.size, 0, none⟩) 0 0 (bools []) rfl L5 A1 n1 c1 (bools us) rfl (H4.bel BL) (bools_one _) (by omega) (by decide) (by simp) ?_; intro A5 c5 w5 O5 G5 B5; have O5' : Own w5 w4.heap.size 4 A5 n1 c5 (bools us) := (by simpa [bools] using O5); obtain ⟨g, hA5, hcell, hfz⟩ := own_bool O5' hK; subst hA5; rw [HU.out] at hcell; have hgb := O5'.block; have P5 := O5'.set_ K (.bool true); rw [bools_set] at P5; have e6 : (w5.setCell ⟨g, K, none⟩ (.bool true)).heap.size = w5.heap.size := (by simp); have L6 := litB_own (w5.setCell ⟨g, K, none⟩ (.bool true)); rw [e6] at L6; have P6 := P5.bel ((Below.refl _ (w5.setCell ⟨g, K, none⟩ (.bool true))).alloc (Nat.le_refl _) (.cells #[] 4))) | (at_builtin; refine wpList_app_has _ rfl (.tmp 49) (.tmp 50) 27 rfl w5.heap.size 4 i0 (.bool false) 1 Try.underlying27 hi hz0 hz1 hz2 rfl (some ⟨w5.heap.size, 0, none⟩) 0 0 (bools []) rfl L6 (some ⟨g, 0, none⟩) n1 c5 (bools (us.set K true)) rfl P6.has (bools_one _) (by omega) (by decide) (by simp) ?_; intro A7 c7 w7 O7 G7 B7; have O7' : Own w7 w5.heap.size 4 A7 n1 c7 (bools (us.set K true)) := (by simpa [bools] using O7); obtain ⟨g7, hA7, hcell7, hfz7⟩ := own_bool O7' hK; subst hA7; rw [T1.out] at hcell7; have hgb7 := O7'.block; have P7 := O7'.set_ K (.bool false); rw [bools_set, T2.out] at P7))
    have D4 : Below w4.heap.size w4 w5 := BL.trans B5
    have D5 : Below w4.heap.size w4 (w5.setCell ⟨g, K, none⟩ (.bool true)) := D4.setCell (p := ⟨g, K, none⟩) hgb.1 _
    have D7 : Below (w5.setCell ⟨g, K, none⟩ (.bool true)).heap.size (w5.setCell ⟨g, K, none⟩ (.bool true)) (w7.setCell ⟨g7, K, none⟩ (.bool false)) := by
      rw [e6]
      exact (((Below.refl w5.heap.size (w5.setCell ⟨g, K, none⟩ (.bool true))).alloc (by simp) _).trans B7).setCell (p := ⟨g7, K, none⟩) hgb7.1 _
    have H8 := (H4.bel D5).bel D7
    have P8 := P5.bel D7
    have C8 := C4.trans ((D5.trans (D7.mono (by rw [e6]; exact D4.size))).mono (by have := C4.size; omega))
    generalize w7.setCell ⟨g7, K, none⟩ (.bool false) = w8 at *
    obtain ⟨r, hr⟩ : ∃ r, movedI us (us.set K true) = r := ⟨_, rfl⟩
    have hr' : movedI (us.set K true) us = r := by rw [movedI_comm]; exact hr
    have rE : (r == r) = true := by simp
    clear D4 D5 D7 P5 P6 L6 L5 BL B5 B7 G5 G7 O5 O7 O5' O7' hcell hcell7 hfz hfz7 hgb hgb7 e6 H4
    refine (implMovedFlows_r H8 P7.has (by omega) (by omega) HM0.out).mono ?_
    rintro e w9 ⟨rfl, B9⟩
    have C9 := bel_trans C8 B9
    have CB := Lib.hid (fun (W : World) (D : Below w9.heap.size w9 W) => implMovedFlows_r (c := c1) (c' := c5) ((H8.bel B9).bel D) (P8.bel B9 |>.bel D).has (by omega) (by omega) hr)
    have CC := Lib.hid (fun (W : World) (D : Below w9.heap.size w9 W) => implMovedFlows_r (c := c5) (c' := c7) (P8.bel B9 |>.bel D).has (P7.bel B9 |>.bel D).has (by omega) (by omega) hr')
    have CD := Lib.hid (fun (W : World) (D : Below w9.heap.size w9 W) => implMovedFlows_r (c := c1) (c' := c1) ((H8.bel B9).bel D) ((H8.bel B9).bel D) (by omega) (by omega) HM0.out)
    clear hr hr'
    go_wp2_with (first | (go_at_call 29; refine (CB.out w9 (Below.refl _ _)).mono ?_; clear CB; rintro e w10 ⟨rfl, B10⟩) | (go_at_call 29; refine (CC.out w10 B10).mono ?_; clear CC; rintro e w11 ⟨rfl, B11⟩; have E11 := bel_trans B10 B11) | (go_at_call 29; refine (CD.out w11 E11).mono ?_; clear CD; rintro e w12 ⟨rfl, B12⟩))
    go_ret
    exact ⟨rfl, bel_trans C9 (bel_trans E11 B12)⟩
  · obtain ⟨t1, t2⟩ := set_back (v := false) (show K < us.length by rw [HL.out]; exact hK) hu1
    have T1 := Lib.hid t1
    have T2 := Lib.hid t2
    have HV := Lib.hid (upOk_set (K := K) (v := false) HO.out)
    clear t1 t2 hu1
    go_wp2_with (first | (at_builtin; refine wpList_app_has _ rfl (.tmp 33) (.tmp 34) 27 rfl w4.heap.size 4 i0 (.bool false) 1 Try.underlying27 hi hz0 hz1 hz2 rfl (some ⟨w4.heap.size, 0, none⟩) 0 0 (bools []) rfl L5 A1 n1 c1 (bools us) rfl (H4.bel BL) (bools_one _) (by omega) (by decide) (by simp) ?_; intro A5 c5 w5 O5 G5 B5; have O5' : Own w5 w4.heap.size 4 A5 n1 c5 (bools us) := (by simpa [bools] using O5); obtain ⟨g, hA5, hcell, hfz⟩ := own_bool O5' hK; subst hA5; rw [HU.out] at hcell; have hgb := O5'.block; have P5 := O5'.set_ K (.bool false); rw [bools_set] at P5; have e6 : (w5.setCell ⟨g, K, none⟩ (.bool false)).heap.size = w5.heap.size := (by simp); have L6 := litB_own (w5.setCell ⟨g, K, none⟩ (.bool false)); rw [e6] at L6; have P6 := P5.bel ((Below.refl _ (w5.setCell ⟨g, K, none⟩ (.bool false))).alloc (Nat.le_refl _) (.cells #[] 4))) | (at_builtin; refine wpList_app_has _ rfl (.tmp 49) (.tmp 50) 27 rfl w5.heap.size 4 i0 (.bool false) 1 Try.underlying27 hi hz0 hz1 hz2 rfl (some ⟨w5.heap.size, 0, none⟩) 0 0 (bools []) rfl L6 (some ⟨g, 0, none⟩) n1 c5 (bools (us.set K false)) rfl P6.has (bools_one _) (by omega) (by decide) (by simp) ?_; intro A7 c7 w7 O7 G7 B7; have O7' : Own w7 w5.heap.size 4 A7 n1 c7 (bools (us.set K false)) := (by simpa [bools] using O7); obtain ⟨g7, hA7, hcell7, hfz7⟩ := own_bool O7' hK; subst hA7; rw [T1.out] at hcell7; have hgb7 := O7'.block; have P7 := O7'.set_ K (.bool true); rw [bools_set, T2.out] at P7))
    have D4 : Below w4.heap.size w4 w5 := BL.trans B5
    have D5 : Below w4.heap.size w4 (w5.setCell ⟨g, K, none⟩ (.bool false)) := D4.setCell (p := ⟨g, K, none⟩) hgb.1 _
    have D7 : Below (w5.setCell ⟨g, K, none⟩ (.bool false)).heap.size (w5.setCell ⟨g, K, none⟩ (.bool false)) (w7.setCell ⟨g7, K, none⟩ (.bool true)) := by
      rw [e6]
      exact (((Below.refl w5.heap.size (w5.setCell ⟨g, K, none⟩ (.bool false))).alloc (by simp) _).trans B7).setCell (p := ⟨g7, K, none⟩) hgb7.1 _
    have H8 := (H4.bel D5).bel D7
    have P8 := P5.bel D7
    have C8 := C4.trans ((D5.trans (D7.mono (by rw [e6]; exact D4.size))).mono (by have := C4.size; omega))
    generalize w7.setCell ⟨g7, K, none⟩ (.bool true) = w8 at *
    obtain ⟨r, hr⟩ : ∃ r, movedI us (us.set K false) = r := ⟨_, rfl⟩
    have hr' : movedI (us.set K false) us = r := by rw [movedI_comm]; exact hr
    have rE : (r == r) = true := by simp
    clear D4 D5 D7 P5 P6 L6 L5 BL B5 B7 G5 G7 O5 O7 O5' O7' hcell hcell7 hfz hfz7 hgb hgb7 e6 H4
    refine (implMovedFlows_r H8 P7.has (by omega) (by omega) HM0.out).mono ?_
    rintro e w9 ⟨rfl, B9⟩
    have C9 := bel_trans C8 B9
    have CB := Lib.hid (fun (W : World) (D : Below w9.heap.size w9 W) => implMovedFlows_r (c := c1) (c' := c5) ((H8.bel B9).bel D) (P8.bel B9 |>.bel D).has (by omega) (by omega) hr)
    have CC := Lib.hid (fun (W : World) (D : Below w9.heap.size w9 W) => implMovedFlows_r (c := c5) (c' := c7) (P8.bel B9 |>.bel D).has (P7.bel B9 |>.bel D).has (by omega) (by omega) hr')
    have CD := Lib.hid (fun (W : World) (D : Below w9.heap.size w9 W) => implMovedFlows_r (c := c1) (c' := c1) ((H8.bel B9).bel D) ((H8.bel B9).bel D) (by omega) (by omega) HM0.out)
    clear hr hr'
    go_wp2_with (first | (go_at_call 29; refine (CB.out w9 (Below.refl _ _)).mono ?_; clear CB; rintro e w10 ⟨rfl, B10⟩) | (go_at_call 29; refine (CC.out w10 B10).mono ?_; clear CC; rintro e w11 ⟨rfl, B11⟩; have E11 := bel_trans B10 B11) | (go_at_call 29; refine (CD.out w11 E11).mono ?_; clear CD; rintro e w12 ⟨rfl, B12⟩))
    go_ret
    exact ⟨rfl, bel_trans C9 (bel_trans E11 B12)⟩
set_option maxRecDepth 100000 in
theorem lifted_FnMovedBack (os : Os) (started : os.Started) (H : Type) (enc : TypeId × Value → H) :
    ReturnsInHanded {} Try.checked os 7 .any (Rows.fnMovedBackSpec.pre6 enc Try.prog Try.f7 Rows.fnMovedBackRow.domain false) (Rows.fnMovedBackSpec.post enc Try.prog Try.f7 false true false false) := by
  refine returnsInHanded_of_change (C := Try.checked) (by kernel_rfl) started (by kernel_rfl) Try.func7
    (ChangeSpec.witness6 (enc := enc) (C := Try.checked) false ⟨#[], #[.slice none 0 0], []⟩ 8 (by kernel_rfl) (by kernel_rfl) (by kernel_rfl) (by kernel_rfl)) ?_
  intro W base args ds gs before hval0 hW hcnd _
  have hval : ∀ (j : Nat) t v, Try.f7.params[j]? = some t → args[j]? = some v → Value.okWide Try.prog W .any base t v := hval0
  have hW' := hW
  obtain ⟨p, q, hA0, hV, rfl, hfz, hnd⟩ := hW
  have hA : DataW.TrodAll enc Try.prog W 0 (fun _ => true) true Try.f7.params.toList args.toList ds p := hA0
  rw [Try.params7] at hA hval
  obtain ⟨v0, vs0, d0, ds0, p0, q0, hargs, rfl, rfl, h0, r0⟩ := trodAll_cons hA
  obtain ⟨rfl, rfl, rfl⟩ := trodAll_nil r0
  obtain rfl : args = #[v0] := by cases args; simp_all
  obtain ⟨rfl, rfl⟩ := trodVars_none hV
  obtain ⟨a0, len0, cap0, rfl⟩ := okWide_slice Try.underlying22 (hval 0 22 v0 rfl rfl)
  have k0 := h0
  have lt0 : ∀ x ∈ p0, x.block < W.heap.size := by obtain ⟨m, hm⟩ := k0; exact DataW.trod_lt m _ _ _ hm
  obtain ⟨z0, H0, U0, M0⟩ := has_of_trod (k := .u8) Try.underlying22 Try.underlying5 (by kernel_rfl) h0
  clear hA0 hval0
  refine (walk_FnMovedBack H0 U0 M0).mono fun e W' ⟨he, bel⟩ => ?_
  subst he
  exact ⟨_, rfl, _, _, _, [], _, [], hW', trodAll_mk1 (shut_bool Try.underlying4 _), (trodAll_cons_mk (Below.trod (by kernel_rfl) (by kernel_rfl) (of_decide_eq_true (by kernel_rfl)) k0 bel lt0) trodAll_mk0), rfl, bel.frame _, fun h => by cases h⟩

theorem fnMovedBack_holds : Rows.FnMovedBackSaid :=
  OpenClaim.holds_of_wide 7 Try.f7 rfl rfl rfl rfl rfl rfl rfl ⟨rfl, rfl, rfl, rfl, rfl⟩ rfl rfl rfl rfl rfl (by kernel_rfl) Try.func7
    (by unfold joinedFacts; with_reducible refine Bool.and_eq_true_iff.2 ⟨?_, (by as_aux_lemma => kernel_rfl)⟩; with_reducible refine Bool.and_eq_true_iff.2 ⟨?_, (by as_aux_lemma => kernel_rfl)⟩; with_reducible refine Bool.and_eq_true_iff.2 ⟨?_, (by as_aux_lemma => kernel_rfl)⟩; with_reducible refine Bool.and_eq_true_iff.2 ⟨?_, (by as_aux_lemma => kernel_rfl)⟩; with_reducible refine Bool.and_eq_true_iff.2 ⟨?_, (by with_unfolding_all exact shutMake)⟩; with_reducible refine Bool.and_eq_true_iff.2 ⟨?_, (by with_unfolding_all exact shutLifts)⟩; with_reducible refine Bool.and_eq_true_iff.2 ⟨?_, shutEnter⟩; (repeat (with_reducible refine Bool.and_eq_true_iff.2 ⟨?_, (by as_aux_lemma => kernel_rfl)⟩)); as_aux_lemma => kernel_rfl)
    (of_decide_eq_true (by kernel_rfl)) (by unfold Func.isWrapper; first | (rw [if_pos (by decide +kernel)]; kernel_rfl) | (rw [if_neg (by decide +kernel)]; exact ⟨rfl, rfl⟩))
    (fun os started H enc _ => lifted_FnMovedBack os started H enc)
end Go.Proofs.Ytimddobedgopiaa
