/-
  FnCosts: for every slice of bytes the law returns true and writes nothing that was there. No condition.
-/
import Derived.Test.YtkmdpmhaljieaaaImp7h
import Derived.Test.YtkmdpmhaljieaaaCabC
import Derived.Test.YtkmdpmhaljieaaaDrawCabB
import Derived.Test.YtkmdpmhaljieaaaWnInts
import Derived.Test.YtkmdpmhaljieaaaShut
namespace Go.Proofs.Ytkmdpmhaljieaaa
open Go.RowKit Go.ChangeShapes Go.WideShapes Go.ChangeAt

theorem has_cI_at {w : World} {n b o : Nat} {l : List Nat} (h : Has w (some ⟨b, o, none⟩) n (cI l)) {i : Nat} (hi : i < n) : w.cell? ⟨b, o + i, none⟩ = some (.int .i64 (gn l i : Int)) := by
  obtain ⟨b', o', e, _, hc⟩ := has_cI h hi
  cases e
  exact hc
set_option maxHeartbeats 8000000 in
set_option maxRecDepth 100000 in
theorem walk_FnCosts {A0 : Option Addr} {n0 c0 : Nat} {zs0 : List Int} {w : World} (h0 : Has w A0 n0 (ints .u8 zs0)) (hwf0 : ∀ z ∈ zs0, (Lit.int .u8 z).wf = true) (hc0 : n0 ≤ c0 ∧ c0 ≤ maxLen) :
    Calls Try.prog 4 #[.slice A0 n0 c0] w fun e w' => e = .returned (.bool true) ∧ Below w.heap.size w w' := by
  have hu0 : U8s zs0 := fun z hz => u8_of_wf (hwf0 z hz)
  clear hwf0
  by_cases hn0 : n0 ≤ 1048576
  · go_enter Try.func4, Try.ntmps4
    go_wp2_with (fail)
    refine (drawCostsOf_any h0 hu0 hc0).mono ?_
    rintro e w1 h
    unfold CabO at h
    obtain ⟨m, A1, n1, c1, ks, rfl, O1, T1, hn1, hm9, B1⟩ := h
    have H1 := O1.has
    clear O1 T1 hm9
    go_wp2_with (fail)
    refine (implCostsOf_w H1 (by omega)).mono ?_
    rintro e w2 ⟨A2, n2, c2, rfl, P2, B2⟩
    have C2 := bel_trans B1 B2
    have H2 := H1.bel B2
    go_wp2_with (fail)
    refine (specCostsOf_w H2 (by omega)).mono ?_
    rintro e w3 ⟨A3, n3, c3, rfl, P3, B3⟩
    have C3 := bel_trans C2 B3
    have H3 := H2.bel B3
    have Q3 := P2.has.bel B3
    have hl2 := Q3.1
    rw [ints_length] at hl2
    have hn2 : n2 ≤ 16777216 := by have := costsI_le (m : Int) ks; omega
    go_wp2_with (fail)
    refine (wnInts_same Q3 P3.has hn2).mono ?_
    rintro e w4 ⟨rfl, B4⟩
    have C4 := bel_trans C3 B4
    have H4 := H3.bel B4
    have Q4 := Q3.bel B4
    clear P2 P3 B1 B2 B3 B4 H1 H2 H3 C2 C3 Q3
    by_cases hv : kOk (m : Int) ks
    · obtain ⟨cs, N⟩ : ∃ cs, Net7 (m : Int) ks m cs := ⟨_, by have := kOk_yes hv; rwa [Int.toNat_natCast] at this⟩
      have hp := N.pos
      have hm8 := N.le
      rw [N.costs] at Q4 hl2
      rw [intsOf_len, costs_len] at hl2
      have HC := Lib.hid N.ok
      have HKS := Lib.hid N.ks_eq
      have HRT := Lib.hid (fun b (hb : b < m) => N.root hb)
      obtain rfl : n2 = m := hl2.symm
      clear hv N
      have hnzB : ((n2 : Int) == 0) = false := by simp; omega
      have hQ : Has w4 A2 n2 (cI (costsN n2 cs)) := Q4
      obtain ⟨g2, o2, rfl, hg2, _⟩ := has_cI hQ hp
      clear Q4
      go_wp2
      obtain ⟨wo, rfl⟩ : ∃ wo : World, wo = w4 := ⟨_, rfl⟩
      go_loopw [39] (fun v wr => ∃ k : Nat, k ≤ n1 ∧ v = .int .i64 (k : Int) ∧ Below wo.heap.size wo wr) (fun v _ => n1 - (intOf v).toNat)
      case atStart => exact ⟨0, Nat.zero_le _, rfl, Below.refl _ _⟩
      case round =>
        obtain ⟨k, hk, rfl, Bw⟩ := hrel
        have Hr := H4.bel Bw
        have Qr := hQ.bel Bw
        by_cases hlt : k < n1
        · have hltB : decide ((k : Int) < (n1 : Int)) = true := by simp; omega
          have hltC : decide (k < n1) = true := by simp; omega
          have HrK : HasK wr A1 n1 (cs.map triOf) := by rw [← HKS.out]; exact Hr
          obtain ⟨b, o, rfl, hbl, d0, d1, d2⟩ := HrK.cab7 hlt
          have hkc : k < cs.length := by have := HrK.1; rw [List.length_map] at this; omega
          have hok := HC.out _ (cab_mem hkc)
          have hed : Edge cs (cab cs k).1 (cab cs k).2.1 (cab cs k).2.2 := .inl (cab_mem hkc)
          have ht1 := cost_tri HC.out hed
          have ht2 := cost_tri HC.out (show Edge cs (cab cs k).2.1 (cab cs k).1 (cab cs k).2.2 from .inr (cab_mem hkc))
          have hq99 : (cab cs k).2.2 ≤ 99 := hok.2.2.2.2
          have hf := hok.1
          have ht := hok.2.1
          clear hok hed hkc HrK Hr
          generalize cab cs k = cc at *
          obtain ⟨f, t, q2⟩ := cc
          have cf9 := cost_le HC.out hf
          have ct9 := cost_le HC.out ht
          have y0 := has_cI_at Qr hf
          have y1 := has_cI_at Qr ht
          have hg2r : g2 < wr.heap.size := Nat.lt_of_lt_of_le hg2 Bw.size
          clear Qr
          simp only at *
          generalize gn (costsN n2 cs) f = cf at *
          generalize gn (costsN n2 cs) t = ct at *
          obtain ⟨qi, hqi⟩ : ∃ qi : Int, (q2 : Int) = qi := ⟨_, rfl⟩
          obtain ⟨fi, hfi⟩ : ∃ qi : Int, (cf : Int) = qi := ⟨_, rfl⟩
          obtain ⟨ti, hti⟩ : ∃ qi : Int, (ct : Int) = qi := ⟨_, rfl⟩
          rw [hqi] at d2
          rw [hfi] at y0
          rw [hti] at y1
          have HW1 := Lib.hid (show IntKind.i64.wrap (fi + qi) = fi + qi from IntWalk.i64_in _ (by omega))
          have HW2 := Lib.hid (show IntKind.i64.wrap (ti + qi) = ti + qi from IntWalk.i64_in _ (by omega))
          have hg1B : decide (ti + qi < fi) = false := by simp; omega
          have hg2B : decide (fi + qi < ti) = false := by simp; omega
          clear ht1 ht2 hq99 cf9 ct9 hqi hfi hti
          have hHn := heap_alloc_new wr (.cells #[.int .i64 (f : Int), .int .i64 (t : Int), .int .i64 qi] 29)
          have BA := (Below.refl wr.heap.size wr).alloc (Nat.le_refl _) (.cells #[.int .i64 (f : Int), .int .i64 (t : Int), .int .i64 qi] 29)
          generalize hWA : wr.alloc (.cells #[.int .i64 (f : Int), .int .i64 (t : Int), .int .i64 qi] 29) = WA at hHn BA
          obtain ⟨x0, x1, x2⟩ := cells3K hHn
          have BwA := bel_trans Bw BA
          have y0 := (BA.cell (p := ⟨g2, o2 + f, none⟩) hg2r).trans y0
          have y1 := (BA.cell (p := ⟨g2, o2 + t, none⟩) hg2r).trans y1
          clear hHn H4 hQ
          go_upto_region 10 with fail
          clear d0 d1 d2
          have W1 := HW1.out
          have W2 := HW2.out
          go_quiet (fail)
          clear W1 W2
          have B4 := BwA.trans (below_drewN (B := wo.heap.size) WA nq)
          go_wp2
          go_roundw
          case rel => exact ⟨k + 1, by omega, by go_num, B4⟩
          case measure => simp [intOf]; omega
        · have hltB : decide ((k : Int) < (n1 : Int)) = false := by simp; omega
          have hltC : decide (k < n1) = false := by simp; omega
          have Cr := bel_trans C4 Bw
          clear hltB hltC
          go_wp2
          obtain ⟨wp, rfl⟩ : ∃ wp : World, wp = wr := ⟨_, rfl⟩
          go_loopw [76] (fun v wq => ∃ k : Nat, k ≤ n2 ∧ v = .int .i64 (k : Int) ∧ Below wp.heap.size wp wq) (fun v _ => n2 - (intOf v).toNat)
          case atStart => exact ⟨0, Nat.zero_le _, rfl, Below.refl _ _⟩
          case round =>
            obtain ⟨k, hk, rfl, Bv⟩ := hrel
            have Hv := Hr.bel Bv
            have Qv := Qr.bel Bv
            by_cases hlt : k < n2
            · have hltB : decide ((k : Int) < (n2 : Int)) = true := by simp; omega
              have hltC : decide (k < n2) = true := by simp; omega
              have y0 := has_cI_at Qv hlt
              have hz := cost_zero HC.out hlt
              obtain ⟨vi, hvi⟩ : ∃ v : Int, (gn (costsN n2 cs) k : Int) = v := ⟨_, rfl⟩
              rw [hvi] at y0
              obtain ⟨ri, hri⟩ : ∃ v : Int, rootI (n2 : Int) ks (k : Int) = v := ⟨_, rfl⟩
              have HR := Lib.hid hri
              rw [HRT.out k hlt] at hri
              by_cases hzz : gn (costsN n2 cs) k = 0
              · have hr2 := hz.1 hzz
                have hvB : (vi == 0) = true := by simp; omega
                have hrB : (ri == (k : Int)) = true := by simp; omega
                clear hz hvi hri hzz hr2
                go_wp2_with (fail)
                refine (implRootOf_w Hv (by omega)).mono ?_
                rintro e w6 ⟨rfl, B6⟩
                rw [HR.out]
                have D6 := bel_trans Bv B6
                go_wp2
                go_roundw
                case rel => exact ⟨k + 1, by omega, by go_num, D6⟩
                case measure => simp [intOf]; omega
              · have hr2 : ¬ rootN n2 cs k = k := fun hh => hzz (hz.2 hh)
                have hvB : (vi == 0) = false := by simp; omega
                have hrB : (ri == (k : Int)) = false := by simp; omega
                clear hz hvi hri hzz hr2
                go_wp2_with (fail)
                refine (implRootOf_w Hv (by omega)).mono ?_
                rintro e w6 ⟨rfl, B6⟩
                rw [HR.out]
                have D6 := bel_trans Bv B6
                go_wp2
                go_roundw
                case rel => exact ⟨k + 1, by omega, by go_num, D6⟩
                case measure => simp [intOf]; omega
            · have hltB : decide ((k : Int) < (n2 : Int)) = false := by simp; omega
              have hltC : decide (k < n2) = false := by simp; omega
              go_wp2
              go_ret
              exact ⟨rfl, bel_trans Cr Bv⟩
    · have he : costsI (m : Int) ks = [] := by unfold costsI; rw [if_neg hv]
      rw [he] at hl2 Q4
      obtain rfl : n2 = 0 := by simpa using hl2.symm
      have HE := Lib.hid he
      clear hl2 he hv
      go_wp2_with (fail)
      refine (specCostsOf_w H4 (by omega)).mono ?_
      rintro e w5 ⟨A5, n5, c5, rfl, P5, B5⟩
      rw [HE.out] at P5
      have C5 := bel_trans C4 B5
      go_wp2_with (fail)
      refine (wnInts_same (Q4.bel B5) P5.has hn2).mono ?_
      rintro e w6 ⟨rfl, B6⟩
      have C6 := bel_trans C5 B6
      go_wp2
      go_ret
      exact ⟨rfl, C6⟩
  · go_enter Try.func4, Try.ntmps4
    go_wp2
    go_ret
    exact ⟨rfl, Below.refl _ _⟩
set_option maxRecDepth 100000 in
theorem lifted_FnCosts (os : Os) (started : os.Started) (H : Type) (enc : TypeId × Value → H) :
    ReturnsInHanded {} Try.checked os 4 .any (Rows.fnCostsSpec.pre6 enc Try.prog Try.f4 Rows.fnCostsRow.domain false) (Rows.fnCostsSpec.post enc Try.prog Try.f4 false true false false) := by
  refine returnsInHanded_of_change (C := Try.checked) (by kernel_rfl) started (by kernel_rfl) Try.func4
    (ChangeSpec.witness6 (enc := enc) (C := Try.checked) false ⟨#[], #[.slice none 0 0], []⟩ 8 (by kernel_rfl) (by kernel_rfl) (by kernel_rfl) (by kernel_rfl)) ?_
  intro W base args ds gs before hval0 hW hcnd _
  have hval : ∀ (j : Nat) t v, Try.f4.params[j]? = some t → args[j]? = some v → Value.okWide Try.prog W .any base t v := hval0
  have hW' := hW
  obtain ⟨p, q, hA0, hV, rfl, hfz, hnd⟩ := hW
  have hA : DataW.TrodAll enc Try.prog W 0 (fun _ => true) true Try.f4.params.toList args.toList ds p := hA0
  rw [Try.params4] at hA hval
  obtain ⟨v0, vs0, d0, ds0, p0, q0, hargs, rfl, rfl, h0, r0⟩ := trodAll_cons hA
  obtain ⟨rfl, rfl, rfl⟩ := trodAll_nil r0
  obtain rfl : args = #[v0] := by cases args; simp_all
  obtain ⟨rfl, rfl⟩ := trodVars_none hV
  obtain ⟨a0, len0, cap0, rfl⟩ := okWide_slice Try.underlying22 (hval 0 22 v0 rfl rfl)
  have k0 := h0
  have lt0 : ∀ x ∈ p0, x.block < W.heap.size := by obtain ⟨m, hm⟩ := k0; exact DataW.trod_lt m _ _ _ hm
  obtain ⟨z0, H0, U0, M0⟩ := has_of_trod (k := .u8) Try.underlying22 Try.underlying5 (by kernel_rfl) h0
  clear hA0 hval0
  refine (walk_FnCosts H0 U0 M0).mono fun e W' ⟨he, bel⟩ => ?_
  subst he
  exact ⟨_, rfl, _, _, _, [], _, [], hW', trodAll_mk1 (shut_bool Try.underlying4 _), (trodAll_cons_mk (Below.trod (by kernel_rfl) (by kernel_rfl) (of_decide_eq_true (by kernel_rfl)) k0 bel lt0) trodAll_mk0), rfl, bel.frame _, fun h => by cases h⟩

theorem fnCosts_holds : Rows.FnCostsSaid :=
  OpenClaim.holds_of_wide 4 Try.f4 rfl rfl rfl rfl rfl rfl rfl ⟨rfl, rfl, rfl, rfl, rfl⟩ rfl rfl rfl rfl rfl (by kernel_rfl) Try.func4
    (by unfold joinedFacts; with_reducible refine Bool.and_eq_true_iff.2 ⟨?_, (by as_aux_lemma => kernel_rfl)⟩; with_reducible refine Bool.and_eq_true_iff.2 ⟨?_, (by as_aux_lemma => kernel_rfl)⟩; with_reducible refine Bool.and_eq_true_iff.2 ⟨?_, (by as_aux_lemma => kernel_rfl)⟩; with_reducible refine Bool.and_eq_true_iff.2 ⟨?_, (by as_aux_lemma => kernel_rfl)⟩; with_reducible refine Bool.and_eq_true_iff.2 ⟨?_, (by with_unfolding_all exact shutMake)⟩; with_reducible refine Bool.and_eq_true_iff.2 ⟨?_, (by with_unfolding_all exact shutLifts)⟩; with_reducible refine Bool.and_eq_true_iff.2 ⟨?_, shutEnter⟩; (repeat (with_reducible refine Bool.and_eq_true_iff.2 ⟨?_, (by as_aux_lemma => kernel_rfl)⟩)); as_aux_lemma => kernel_rfl)
    (of_decide_eq_true (by kernel_rfl)) (by unfold Func.isWrapper; first | (rw [if_pos (by decide +kernel)]; kernel_rfl) | (rw [if_neg (by decide +kernel)]; exact ⟨rfl, rfl⟩))
    (fun os started H enc _ => lifted_FnCosts os started H enc)
end Go.Proofs.Ytkmdpmhaljieaaa
