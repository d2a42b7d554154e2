/-
  FnRoot: for every slice of bytes the law returns true and writes nothing that was there. No condition.
-/
import Derived.Test.YtkmdpmhaljieaaaImp7b
import Derived.Test.YtkmdpmhaljieaaaCabC
import Derived.Test.YtkmdpmhaljieaaaDrawCabB
import Derived.Test.YtkmdpmhaljieaaaShut
namespace Go.Proofs.Ytkmdpmhaljieaaa
open Go.RowKit Go.ChangeShapes Go.WideShapes Go.ChangeAt

theorem rootI_yes {m : Nat} {ks : List Tri} {x : Int} (h : ¬ rootI (m : Int) ks x < 0) : ∃ cs xn, Net7 (m : Int) ks m cs ∧ x = (xn : Nat) ∧ xn < m := by
  unfold rootI at h
  split at h
  · rename_i hv
    have N := kOk_yes hv.1
    rw [Int.toNat_natCast] at N
    obtain ⟨xn, rfl⟩ := Int.eq_ofNat_of_zero_le hv.2.1
    exact ⟨_, xn, N, rfl, by omega⟩
  · exact absurd (by omega) h
set_option maxHeartbeats 8000000 in
set_option maxRecDepth 100000 in
theorem walk_FnRoot {A0 : Option Addr} {n0 c0 : Nat} {zs0 : List Int} {w : World} (h0 : Has w A0 n0 (ints .u8 zs0)) (hwf0 : ∀ z ∈ zs0, (Lit.int .u8 z).wf = true) (hc0 : n0 ≤ c0 ∧ c0 ≤ maxLen) :
    Calls Try.prog 3 #[.slice A0 n0 c0] w fun e w' => e = .returned (.bool true) ∧ Below w.heap.size w w' := by
  have hu0 : U8s zs0 := fun z hz => u8_of_wf (hwf0 z hz)
  clear hwf0
  by_cases hn0 : n0 ≤ 1048576
  · go_enter Try.func3, Try.ntmps3
    go_wp2_with (fail)
    refine (drawRootOf_any h0 hu0 hc0).mono ?_
    rintro e w1 h
    unfold CabX at h
    obtain ⟨m, x, A1, n1, c1, ks, rfl, O1, T1, hn1, hm9, hx, B1⟩ := h
    have H1 := O1.has
    clear O1 T1 hx hm9
    obtain ⟨rr, hrr⟩ : ∃ rr, rootI (m : Int) ks x = rr := ⟨_, rfl⟩
    have HR := Lib.hid hrr
    go_wp2_with (fail)
    refine (implRootOf_w H1 (by omega)).mono ?_
    rintro e w2 ⟨rfl, B2⟩
    rw [HR.out]
    have C2 := bel_trans B1 B2
    have H2 := H1.bel B2
    go_wp2_with (fail)
    refine (specRootOf_w H2 (by omega)).mono ?_
    rintro e w3 ⟨rfl, B3⟩
    rw [HR.out]
    have C3 := bel_trans C2 B3
    have H3 := H2.bel B3
    have hneB : (rr != rr) = false := by simp
    have heqB : (rr == rr) = true := by simp
    clear B1 B2 B3 H1 H2 C2
    by_cases hneg : rr < 0
    · have hnB : decide (rr < 0) = true := by simp; omega
      obtain ⟨vb, hvb⟩ : ∃ vb, decide (kOk (m : Int) ks) = vb := ⟨_, rfl⟩
      have HV := Lib.hid hvb
      clear hvb hrr
      have hvB : (vb == vb) = true := by simp
      go_wp2_with (fail)
      refine (specRootOf_w H3 (by omega)).mono ?_
      rintro e w4 ⟨rfl, B4⟩
      rw [HR.out]
      have C4 := bel_trans C3 B4
      have H4 := H3.bel B4
      go_wp2_with (fail)
      refine (implCablesValid_b H4 (by omega) HV.out).mono ?_
      rintro e w5 ⟨rfl, B5⟩
      have C5 := bel_trans C4 B5
      have H5 := H4.bel B5
      go_wp2_with (fail)
      refine (specCablesValid_b H5 (by omega) HV.out).mono ?_
      rintro e w6 ⟨rfl, B6⟩
      have C6 := bel_trans C5 B6
      go_wp2
      go_ret
      exact ⟨rfl, C6⟩
    · have hnB : decide (rr < 0) = false := by simp; omega
      obtain ⟨cs, xn, N, rfl, hxm⟩ := rootI_yes (by rw [hrr]; exact hneg)
      have HV := Lib.hid (decide_eq_true N.valid)
      have hr2 := N.root hxm
      rw [hrr] at hr2
      have hm8 := N.le
      have HC := Lib.hid N.ok
      have HKS := Lib.hid N.ks_eq
      have HRT := Lib.hid (fun b (hb : b < m) => N.root hb)
      subst hr2
      generalize hq : rootN m cs xn = q at *
      have HQ := Lib.hid hq
      clear hq hrr N hneg
      go_wp2_with (fail)
      refine (implCablesValid_b H3 (by omega) HV.out).mono ?_
      rintro e w4 ⟨rfl, B4⟩
      have C4 := bel_trans C3 B4
      have H4 := H3.bel B4
      go_wp2_with (fail)
      refine (specCablesValid_b H4 (by omega) HV.out).mono ?_
      rintro e w5 ⟨rfl, B5⟩
      have C5 := bel_trans C4 B5
      have H5 := H4.bel B5
      clear B4 B5 C4 C3 H3 H4
      have hql : q ≤ xn := by rw [← HQ.out]; exact root_le HC.out hxm
      have hqm : q < m := by omega
      have HRQ := Lib.hid (show rootI (m : Int) ks (q : Int) = (q : Int) by rw [HRT.out q hqm, ← HQ.out, root_root HC.out hxm])
      have hleB : decide ((q : Int) ≤ (xn : Int)) = true := by simp; omega
      have hleC : decide (q ≤ xn) = true := by simp; omega
      clear hql
      go_wp2
      obtain ⟨wo, rfl⟩ : ∃ wo : World, wo = w5 := ⟨_, rfl⟩
      go_loopw [58] (fun v wr => ∃ k : Nat, k ≤ n1 ∧ v = .int .i64 (k : Int) ∧ Below wo.heap.size wo wr) (fun v _ => n1 - (intOf v).toNat)
      case atStart => exact ⟨0, Nat.zero_le _, rfl, Below.refl _ _⟩
      case round =>
        obtain ⟨k, hk, rfl, Bw⟩ := hrel
        have Hr := H5.bel Bw
        by_cases hlt : k < n1
        · have hltB : decide ((k : Int) < (n1 : Int)) = true := by simp; omega
          have hltC : decide (k < n1) = true := by simp; omega
          have hL := Hr.1
          have HrK : HasK wr A1 n1 (cs.map triOf) := by rw [← HKS.out]; exact Hr
          obtain ⟨b, o, rfl, hbl, d0, d1, d2⟩ := HrK.cab7 hlt
          have hkc : k < cs.length := by have := HrK.1; rw [List.length_map] at this; omega
          have hok := HC.out _ (cab_mem hkc)
          have hed := root_edge HC.out (show Edge cs (cab cs k).1 (cab cs k).2.1 (cab cs k).2.2 from .inl (cab_mem hkc))
          generalize cab cs k = cc at *
          obtain ⟨f, t, q2⟩ := cc
          have HF := Lib.hid (HRT.out f hok.1)
          have HT := Lib.hid ((HRT.out t hok.2.1).trans (by rw [← hed]))
          generalize rootN m cs f = rf at *
          have hHn := heap_alloc_new wr (.cells #[.int .i64 (f : Int), .int .i64 (t : Int), .int .i64 (q2 : Int)] 29)
          have BA := (Below.refl wr.heap.size wr).alloc (Nat.le_refl _) (.cells #[.int .i64 (f : Int), .int .i64 (t : Int), .int .i64 (q2 : Int)] 29)
          have sA : wr.heap.size < (wr.alloc (.cells #[.int .i64 (f : Int), .int .i64 (t : Int), .int .i64 (q2 : Int)] 29)).heap.size := by simp
          generalize hWA : wr.alloc (.cells #[.int .i64 (f : Int), .int .i64 (t : Int), .int .i64 (q2 : Int)] 29) = WA at hHn BA sA
          obtain ⟨x0, x1, x2⟩ := cells3K hHn
          have BwA := bel_trans Bw BA
          have HA := Hr.bel BA
          have hHh := Lib.hid hHn
          have hneR : ((rf : Int) != (rf : Int)) = false := by simp
          have DB : Below WA.heap.size WA WA.drew := (Below.refl _ _).drew
          clear hok hed hL HrK hHn Hr x2 H5
          go_upto_region 10 with fail
          clear d0 d1 d2
          go_region_with (first | (go_at_call 20; refine (implRootOf_w (HA.bel E1) (by omega)).mono ?_; rintro e u2 ⟨rfl, B2⟩; (first | rw [HF.out] | rw [HT.out]); have E2 := bel_trans E1 B2) | (go_at_call 20; refine (implRootOf_w (HA.bel DB) (by omega)).mono ?_; rintro e u1 ⟨rfl, B1⟩; (first | rw [HF.out] | rw [HT.out]); have E1 := bel_trans DB B1; have y1 := cells3K ((E1.block wr.heap.size sA).trans hHh.out); have y10 := y1.1; have y11 := y1.2.1; clear y1))
          all_goals
            go_wp2_with fail
            go_roundw
          all_goals first
            | exact ⟨k + 1, by omega, by go_num, bel_trans BwA E2⟩
            | (simp [intOf]; omega)
        · have hltB : decide ((k : Int) < (n1 : Int)) = false := by simp; omega
          have hltC : decide (k < n1) = false := by simp; omega
          go_wp2_with (fail)
          refine (implRootOf_w Hr (by omega)).mono ?_
          rintro e w6 ⟨rfl, B6⟩
          rw [HRQ.out]
          have D6 := bel_trans Bw B6
          go_wp2
          go_ret
          exact ⟨rfl, bel_trans C5 D6⟩
  · go_enter Try.func3, Try.ntmps3
    go_wp2
    go_ret
    exact ⟨rfl, Below.refl _ _⟩
set_option maxRecDepth 100000 in
theorem lifted_FnRoot (os : Os) (started : os.Started) (H : Type) (enc : TypeId × Value → H) :
    ReturnsInHanded {} Try.checked os 3 .any (Rows.fnRootSpec.pre6 enc Try.prog Try.f3 Rows.fnRootRow.domain false) (Rows.fnRootSpec.post enc Try.prog Try.f3 false true false false) := by
  refine returnsInHanded_of_change (C := Try.checked) (by kernel_rfl) started (by kernel_rfl) Try.func3
    (ChangeSpec.witness6 (enc := enc) (C := Try.checked) false ⟨#[], #[.slice none 0 0], []⟩ 8 (by kernel_rfl) (by kernel_rfl) (by kernel_rfl) (by kernel_rfl)) ?_
  intro W base args ds gs before hval0 hW hcnd _
  have hval : ∀ (j : Nat) t v, Try.f3.params[j]? = some t → args[j]? = some v → Value.okWide Try.prog W .any base t v := hval0
  have hW' := hW
  obtain ⟨p, q, hA0, hV, rfl, hfz, hnd⟩ := hW
  have hA : DataW.TrodAll enc Try.prog W 0 (fun _ => true) true Try.f3.params.toList args.toList ds p := hA0
  rw [Try.params3] at hA hval
  obtain ⟨v0, vs0, d0, ds0, p0, q0, hargs, rfl, rfl, h0, r0⟩ := trodAll_cons hA
  obtain ⟨rfl, rfl, rfl⟩ := trodAll_nil r0
  obtain rfl : args = #[v0] := by cases args; simp_all
  obtain ⟨rfl, rfl⟩ := trodVars_none hV
  obtain ⟨a0, len0, cap0, rfl⟩ := okWide_slice Try.underlying22 (hval 0 22 v0 rfl rfl)
  have k0 := h0
  have lt0 : ∀ x ∈ p0, x.block < W.heap.size := by obtain ⟨m, hm⟩ := k0; exact DataW.trod_lt m _ _ _ hm
  obtain ⟨z0, H0, U0, M0⟩ := has_of_trod (k := .u8) Try.underlying22 Try.underlying5 (by kernel_rfl) h0
  clear hA0 hval0
  refine (walk_FnRoot H0 U0 M0).mono fun e W' ⟨he, bel⟩ => ?_
  subst he
  exact ⟨_, rfl, _, _, _, [], _, [], hW', trodAll_mk1 (shut_bool Try.underlying4 _), (trodAll_cons_mk (Below.trod (by kernel_rfl) (by kernel_rfl) (of_decide_eq_true (by kernel_rfl)) k0 bel lt0) trodAll_mk0), rfl, bel.frame _, fun h => by cases h⟩

theorem fnRoot_holds : Rows.FnRootSaid :=
  OpenClaim.holds_of_wide 3 Try.f3 rfl rfl rfl rfl rfl rfl rfl ⟨rfl, rfl, rfl, rfl, rfl⟩ rfl rfl rfl rfl rfl (by kernel_rfl) Try.func3
    (by unfold joinedFacts; with_reducible refine Bool.and_eq_true_iff.2 ⟨?_, (by as_aux_lemma => kernel_rfl)⟩; with_reducible refine Bool.and_eq_true_iff.2 ⟨?_, (by as_aux_lemma => kernel_rfl)⟩; with_reducible refine Bool.and_eq_true_iff.2 ⟨?_, (by as_aux_lemma => kernel_rfl)⟩; with_reducible refine Bool.and_eq_true_iff.2 ⟨?_, (by as_aux_lemma => kernel_rfl)⟩; with_reducible refine Bool.and_eq_true_iff.2 ⟨?_, (by with_unfolding_all exact shutMake)⟩; with_reducible refine Bool.and_eq_true_iff.2 ⟨?_, (by with_unfolding_all exact shutLifts)⟩; with_reducible refine Bool.and_eq_true_iff.2 ⟨?_, shutEnter⟩; (repeat (with_reducible refine Bool.and_eq_true_iff.2 ⟨?_, (by as_aux_lemma => kernel_rfl)⟩)); as_aux_lemma => kernel_rfl)
    (of_decide_eq_true (by kernel_rfl)) (by unfold Func.isWrapper; first | (rw [if_pos (by decide +kernel)]; kernel_rfl) | (rw [if_neg (by decide +kernel)]; exact ⟨rfl, rfl⟩))
    (fun os started H enc _ => lifted_FnRoot os started H enc)
end Go.Proofs.Ytkmdpmhaljieaaa
