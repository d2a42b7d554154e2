/-
  FnTreeLess: for every slice of bytes the law returns true and writes nothing that was there. No condition.
-/
import Derived.Test.YtkmdpmhaljieaaaTreeB
import Derived.Test.YtkmdpmhaljieaaaShut
namespace Go.Proofs.Ytkmdpmhaljieaaa
open Go.RowKit Go.ChangeShapes Go.WideShapes Go.ChangeAt

set_option maxHeartbeats 16000000 in
set_option maxRecDepth 100000 in
theorem walk_FnTreeLess {A0 : Option Addr} {n0 c0 : Nat} {zs0 : List Int} {w : World} (h0 : Has w A0 n0 (ints .u8 zs0)) (hwf0 : ∀ z ∈ zs0, (Lit.int .u8 z).wf = true) (hc0 : n0 ≤ c0 ∧ c0 ≤ maxLen) :
    Calls Try.prog 6 #[.slice A0 n0 c0] w fun e w' => e = .returned (.bool true) ∧ Below w.heap.size w w' := by
  obtain ⟨i0, hi, hz0, hz1, hz2⟩ := info_partsK Try.infoCableD
  have hu0 : U8s zs0 := fun z hz => u8_of_wf (hwf0 z hz)
  clear hwf0
  by_cases hn0 : n0 ≤ 1048576
  · go_enter Try.func6, Try.ntmps6
    go_wp2_with (fail)
    refine (drawTreeOf_any h0 hu0 hc0).mono ?_
    rintro e w1 h
    unfold CabO at h
    obtain ⟨m, A1, n1, c1, ks, rfl, O1, T1, hn1, hm9, B1⟩ := h
    have H1 := O1.has
    clear O1 T1
    go_wp2_with (fail)
    refine (implTreeOf_w H1 (by omega)).mono ?_
    rintro e w2 ⟨A2, n2, c2, rfl, P2, B2⟩
    have C2 := bel_trans B1 B2
    have H2 := H1.bel B2
    go_wp2_with (fail)
    refine (specTreeOf_w H2 (by omega)).mono ?_
    rintro e w3 ⟨A3, n3, c3, rfl, P3, B3⟩
    have C3 := bel_trans C2 B3
    have H3 := H2.bel B3
    have Q3 := P2.has.bel B3
    have hl2 := Q3.1
    rw [ints_length] at hl2
    have hn2 : n2 ≤ 16777216 := by have := treeI_le (m : Int) ks; omega
    go_wp2_with (fail)
    refine (wnInts_same Q3 P3.has hn2).mono ?_
    rintro e w4 ⟨rfl, B4⟩
    have C4 := bel_trans C3 B4
    have H4 := H3.bel B4
    have Q4 := Q3.bel B4
    clear P2 P3 B1 B2 B3 B4 H1 H2 H3 C2 C3 Q3
    by_cases hv : kOk (m : Int) ks
    · obtain ⟨cs, N⟩ : ∃ cs, Net7 (m : Int) ks m cs := ⟨_, by have := kOk_yes hv; rwa [Int.toNat_natCast] at this⟩
      have hm8 := N.le
      rw [N.tree] at Q4 hl2
      rw [intsOf_len] at hl2
      have HN := Lib.hid N
      have HC := Lib.hid N.ok
      have HL := Lib.hid (show cs.length = n1 by have := H4.1; rw [N.ks_eq, List.length_map] at this; exact this)
      obtain ⟨TR, hTR⟩ : ∃ l, treeN m cs = l := ⟨_, rfl⟩
      have HTR := Lib.hid hTR
      have HLT := Lib.hid (show ∀ j ∈ TR, j < cs.length by rw [← hTR]; exact treeN_lt)
      have hTL8 : TR.length ≤ 8 := by rw [← hTR]; have := treeN_len_le m cs; omega
      rw [hTR] at Q4 hl2
      have HTL := Lib.hid hl2
      have hn28 : n2 ≤ 8 := by omega
      have HQ : Has w4 A2 n2 (cI TR) := Q4
      obtain rfl := N.ks_eq
      clear hv N hTR Q4 hl2 hm9 hTL8
      go_wp2
      go_loopw [30] (fun t wx => ∃ k : Nat, k ≤ n2 ∧ t = .int .i64 (k : Int) ∧ Below w4.heap.size w4 wx) (fun t _ => n2 - (intOf t).toNat)
      case atStart => exact ⟨0, Nat.zero_le _, rfl, Below.refl _ _⟩
      case round =>
        obtain ⟨k, hk, rfl, B5⟩ := hrel
        have s5 := B5.size
        by_cases hlt : k < n2
        · have hltB : decide ((k : Int) < (n2 : Int)) = true := by simp; omega
          have hltC : decide (k < n2) = true := by simp; omega
          have Q5 := HQ.bel B5
          have H5 := H4.bel B5
          obtain ⟨bq, oq, rfl, hbq, y0⟩ := has_cI Q5 hlt
          have hkl : k < TR.length := by have := HTL.out; omega
          have HJM := Lib.hid (show gn TR k ∈ treeN m cs by rw [HTR.out]; exact gn_mem hkl)
          have hjl := HLT.out _ (gn_mem hkl)
          have hjn : gn TR k < n1 := by rw [← HL.out]; exact hjl
          generalize gn TR k = j at *
          have OX : OwnK (wr.alloc (.cells #[] 29)) wr.heap.size 29 (some ⟨wr.heap.size, 0, none⟩) 0 0 ((cabsAt cs (notJ j (TR.take 0))).map triOf) := World.ownsRow_lit wr #[] 0 (Nat.le_refl _) (by unfold maxLen; omega) rfl
          have BX : Below wr.heap.size wr (wr.alloc (.cells #[] 29)) := (Below.refl _ _).alloc (Nat.le_refl _) _
          clear hkl hjl
          obtain ⟨wo, hwo⟩ : ∃ wo : World, wo = wr := ⟨_, rfl⟩
          rw [← hwo] at OX BX B5 Q5 H5 s5 y0
          subst hwo
          go_wp2
          go_loopw [8, 37] (fun v t wx => ∃ (i q : Nat) (A' : Option Addr) (c' : Nat), i ≤ n2 ∧ q ≤ i ∧ t = .int .i64 (i : Int) ∧ v = .slice A' q c' ∧ OwnK wx wo.heap.size 29 A' q c' ((cabsAt cs (notJ j (TR.take i))).map triOf) ∧ Below wo.heap.size wo wx) (fun _ t _ => n2 - (intOf t).toNat)
          case atStart => exact ⟨0, 0, _, _, Nat.zero_le _, Nat.le_refl _, rfl, rfl, OX, BX⟩
          case round =>
            obtain ⟨i, q, A6, c6, hi2, hqi, rfl, rfl, O6, B6⟩ := hrel
            have s6 := B6.size
            by_cases hlt2 : i < n2
            · have hltB2 : decide ((i : Int) < (n2 : Int)) = true := by simp; omega
              have hltC2 : decide (i < n2) = true := by simp; omega
              have Q6 := Q5.bel B6
              have y1 := has_cI_at Q6 hlt2
              have hil : i < TR.length := by have := HTL.out; omega
              have hjl2 := HLT.out _ (gn_mem hil)
              have hjn2 : gn TR i < n1 := by rw [← HL.out]; exact hjl2
              have HY := Lib.hid (fun (hh : gn TR i ≠ j) => show (cabsAt cs (notJ j (TR.take (i + 1)))).map triOf = (cabsAt cs (notJ j (TR.take i))).map triOf ++ [triOf (cab cs (gn TR i))] by rw [notJ_yes hil hh, cabsAt_snoc, tris_snoc])
              have HZ := Lib.hid (fun (hh : gn TR i = j) => show (cabsAt cs (notJ j (TR.take (i + 1)))).map triOf = (cabsAt cs (notJ j (TR.take i))).map triOf by rw [notJ_no hil hh])
              generalize gn TR i = j2 at *
              clear hil hjl2 Q6
              by_cases hne : j2 = j
              · subst hne
                have hneB : ((j2 : Int) != (j2 : Int)) = false := by simp
                have HZ2 := Lib.hid (HZ.out rfl)
                clear HZ HY
                go_wp2
                go_roundw
                case rel => exact ⟨i + 1, q, _, _, by omega, by omega, by go_num, rfl, by rw [HZ2.out]; exact O6, B6⟩
                case measure => simp [intOf]; omega
              · have hneB : ((j2 : Int) != (j : Int)) = true := by simp; omega
                have HSN := Lib.hid (HY.out hne)
                clear HZ HY hne
                have hc6 := O6.cap
                obtain ⟨bb, o, rfl, hbl, d0, d1, d2⟩ := (H5.bel B6).cab7 hjn2
                generalize cab cs j2 = cc at *
                obtain ⟨f, t, q2⟩ := cc
                simp only at d0 d1 d2
                have HT3 := Lib.hid (show triOf (f, t, q2) = ((f : Int), (t : Int), (q2 : Int)) from rfl)
                rw [HT3.out] at HSN
                have BN := (Below.refl wr.heap.size wr).alloc (Nat.le_refl _) (.cells #[.int .i64 (f : Int), .int .i64 (t : Int), .int .i64 (q2 : Int)] 29)
                have BW := B6.trans (BN.mono s6)
                go_wp2_with (at_builtin; refine wpList_append_lies (wr.alloc (.cells #[.int .i64 (f : Int), .int .i64 (t : Int), .int .i64 (q2 : Int)] 29)) rfl (.tmp 44) (.tmp 49) 23 rfl wo.heap.size 29 i0 (.agg #[.int .i64 0, .int .i64 0, .int .i64 0]) 3 24 Try.underlying23 hi hz0 hz1 hz2 rfl (by decide) (.slice A6 q c6) q (flatK ((cabsAt cs (notJ j (TR.take i))).map triOf)) rfl (World.ownsRow.alloc O6 _) ⟨wr.heap.size, 0, none⟩ 1 1 (#[.int .i64 (f : Int), .int .i64 (t : Int), .int .i64 (q2 : Int)] : Array Value).toList rfl rfl (World.news_of_block (heap_alloc_new wr _)) (by simp [Value.oneCell']) (by decide) (by unfold maxLen; omega) (by omega) (by simp; omega) _ rfl ?_; intro g7 c7 w7 O7 G7 at7 _)
                have P7 : OwnK w7 wo.heap.size 29 (some ⟨g7, 0, none⟩) (q + 1) c7 ((cabsAt cs (notJ j (TR.take (i + 1)))).map triOf) := by rw [HSN.out]; exact OwnK.more (x := ((f : Int), (t : Int), (q2 : Int))) O7
                have B7 := BW.trans (below_of_grown G7 BW.size (fun x hx => (World.ownsRow.lt O6 x hx).1))
                clear O7 G7 at7
                go_wp2
                go_roundw
                case rel => exact ⟨i + 1, q + 1, _, _, by omega, by omega, by go_num, rfl, P7, B7⟩
                case measure => simp [intOf]; omega
            · have hltB2 : decide ((i : Int) < (n2 : Int)) = false := by simp; omega
              have hltC2 : decide (i < n2) = false := by simp; omega
              obtain rfl : i = n2 := by omega
              rw [List.take_of_length_le (by rw [HTL.out]; omega)] at O6
              have hsub : ∀ x ∈ notJ j TR, x ∈ treeN m cs ∧ x ≠ j := fun x hx => by
                unfold notJ at hx
                rw [List.mem_filter] at hx
                exact ⟨by rw [HTR.out]; exact hx.1, by simpa using hx.2⟩
              have NS := Lib.hid (sub_net HN.out (l := notJ j TR) (fun x hx => HLT.out x (by rw [← HTR.out]; exact (hsub x hx).1)) (by have := List.length_filter_le (fun x => decide (x ≠ j)) TR; have h2 := HTL.out; unfold notJ; omega))
              have K6 := O6.has
              have H6 := H5.bel B6
              have hjl3 : j < cs.length := by rw [HL.out]; exact hjn
              have hok := HC.out _ (cab_mem hjl3)
              have HLESS := Lib.hid (tree_less HC.out HJM.out hsub)
              obtain ⟨bb, o, rfl, hbl, d0, d1, d2⟩ := H6.cab7 hjn
              have HRA := Lib.hid (NS.out.root hok.1)
              have HRB := Lib.hid (NS.out.root hok.2.1)
              generalize (cabsAt cs (notJ j TR)).map triOf = kt at *
              generalize cabsAt cs (notJ j TR) = cj at *
              generalize cab cs j = cc at *
              obtain ⟨f, t, q2⟩ := cc
              simp only at d0 d1 d2 HRA HRB HLESS
              have HNE := Lib.hid (show ((rootN m cj f : Int) == (rootN m cj t : Int)) = false by have := HLESS.out; simp; omega)
              generalize (rootN m cj f : Int) = rf at *
              generalize (rootN m cj t : Int) = rt at *
              have hneq := HNE.out
              have hneq2 : (rt == rf) = false := by rw [beq_eq_false_iff_ne] at hneq ⊢; exact Ne.symm hneq
              have RT := Lib.hid (fun (b : Int) (W : World) (hb : Below wr.heap.size wr W) => implRootOf_w (c := c6) (nz := (m : Int)) (b := b) (K6.bel hb) (by omega))
              have BD : Below wr.heap.size wr wr.drew := below_drewN _ 1
              have KEEP := Lib.hid (fun (W : World) (hb : Below wr.heap.size wr W) => show W.cell? ⟨bb, o + j * 3, none⟩ = some (.int .i64 (f : Int)) ∧ W.cell? ⟨bb, o + j * 3 + 1, none⟩ = some (.int .i64 (t : Int)) from ⟨(hb.cell (p := ⟨bb, o + j * 3, none⟩) hbl).trans d0, (hb.cell (p := ⟨bb, o + j * 3 + 1, none⟩) hbl).trans d1⟩)
              clear hsub NS hjl3 hok HLESS O6 HNE d2
              go_wp2_with (fail)
              go_region_with (first | (go_at_call 20; first
                | (refine (RT.out _ _ B8).mono ?_; rintro e w9 ⟨rfl, B9⟩; have B10 := bel_trans B8 B9; first | rw [HRA.out] | rw [HRB.out])
                | (refine (RT.out _ _ BD).mono ?_; rintro e w8 ⟨rfl, B7⟩; have B8 := bel_trans BD B7; have e0 := (KEEP.out _ B8).1; have e1 := (KEEP.out _ B8).2; first | rw [HRA.out] | rw [HRB.out])))
              all_goals
                go_wp2
                go_roundw
              all_goals first
                | exact ⟨k + 1, by omega, by go_num, B5.trans ((B6.trans (B10.mono s6)).mono s5)⟩
                | (simp [intOf]; omega)
        · have hltB : decide ((k : Int) < (n2 : Int)) = false := by simp; omega
          have hltC : decide (k < n2) = false := by simp; omega
          go_wp2
          go_ret
          exact ⟨rfl, bel_trans C4 B5⟩
    · have he : treeI (m : Int) ks = [] := by unfold treeI; rw [if_neg hv]
      rw [he] at hl2 Q4
      obtain rfl : n2 = 0 := by simpa using hl2.symm
      clear hl2 he hv
      go_wp2
      go_loopw [30] (fun t wx => t = .int .i64 0 ∧ wx = w4) (fun _ _ => 0)
      case atStart => exact ⟨rfl, rfl⟩
      case round =>
        obtain ⟨rfl, rfl⟩ := hrel
        go_wp2
        go_ret
        exact ⟨rfl, C4⟩
  · go_enter Try.func6, Try.ntmps6
    go_wp2
    go_ret
    exact ⟨rfl, Below.refl _ _⟩
set_option maxRecDepth 100000 in
theorem lifted_FnTreeLess (os : Os) (started : os.Started) (H : Type) (enc : TypeId × Value → H) :
    ReturnsInHanded {} Try.checked os 6 .any (Rows.fnTreeLessSpec.pre6 enc Try.prog Try.f6 Rows.fnTreeLessRow.domain false) (Rows.fnTreeLessSpec.post enc Try.prog Try.f6 false true false false) := by
  refine returnsInHanded_of_change (C := Try.checked) (by kernel_rfl) started (by kernel_rfl) Try.func6
    (ChangeSpec.witness6 (enc := enc) (C := Try.checked) false ⟨#[], #[.slice none 0 0], []⟩ 8 (by kernel_rfl) (by kernel_rfl) (by kernel_rfl) (by kernel_rfl)) ?_
  intro W base args ds gs before hval0 hW hcnd _
  have hval : ∀ (j : Nat) t v, Try.f6.params[j]? = some t → args[j]? = some v → Value.okWide Try.prog W .any base t v := hval0
  have hW' := hW
  obtain ⟨p, q, hA0, hV, rfl, hfz, hnd⟩ := hW
  have hA : DataW.TrodAll enc Try.prog W 0 (fun _ => true) true Try.f6.params.toList args.toList ds p := hA0
  rw [Try.params6] at hA hval
  obtain ⟨v0, vs0, d0, ds0, p0, q0, hargs, rfl, rfl, h0, r0⟩ := trodAll_cons hA
  obtain ⟨rfl, rfl, rfl⟩ := trodAll_nil r0
  obtain rfl : args = #[v0] := by cases args; simp_all
  obtain ⟨rfl, rfl⟩ := trodVars_none hV
  obtain ⟨a0, len0, cap0, rfl⟩ := okWide_slice Try.underlying22 (hval 0 22 v0 rfl rfl)
  have k0 := h0
  have lt0 : ∀ x ∈ p0, x.block < W.heap.size := by obtain ⟨m, hm⟩ := k0; exact DataW.trod_lt m _ _ _ hm
  obtain ⟨z0, H0, U0, M0⟩ := has_of_trod (k := .u8) Try.underlying22 Try.underlying5 (by kernel_rfl) h0
  clear hA0 hval0
  refine (walk_FnTreeLess H0 U0 M0).mono fun e W' ⟨he, bel⟩ => ?_
  subst he
  exact ⟨_, rfl, _, _, _, [], _, [], hW', trodAll_mk1 (shut_bool Try.underlying4 _), (trodAll_cons_mk (Below.trod (by kernel_rfl) (by kernel_rfl) (of_decide_eq_true (by kernel_rfl)) k0 bel lt0) trodAll_mk0), rfl, bel.frame _, fun h => by cases h⟩

theorem fnTreeLess_holds : Rows.FnTreeLessSaid :=
  OpenClaim.holds_of_wide 6 Try.f6 rfl rfl rfl rfl rfl rfl rfl ⟨rfl, rfl, rfl, rfl, rfl⟩ rfl rfl rfl rfl rfl (by kernel_rfl) Try.func6
    (by unfold joinedFacts; with_reducible refine Bool.and_eq_true_iff.2 ⟨?_, (by as_aux_lemma => kernel_rfl)⟩; with_reducible refine Bool.and_eq_true_iff.2 ⟨?_, (by as_aux_lemma => kernel_rfl)⟩; with_reducible refine Bool.and_eq_true_iff.2 ⟨?_, (by as_aux_lemma => kernel_rfl)⟩; with_reducible refine Bool.and_eq_true_iff.2 ⟨?_, (by as_aux_lemma => kernel_rfl)⟩; with_reducible refine Bool.and_eq_true_iff.2 ⟨?_, (by with_unfolding_all exact shutMake)⟩; with_reducible refine Bool.and_eq_true_iff.2 ⟨?_, (by with_unfolding_all exact shutLifts)⟩; with_reducible refine Bool.and_eq_true_iff.2 ⟨?_, shutEnter⟩; (repeat (with_reducible refine Bool.and_eq_true_iff.2 ⟨?_, (by as_aux_lemma => kernel_rfl)⟩)); as_aux_lemma => kernel_rfl)
    (of_decide_eq_true (by kernel_rfl)) (by unfold Func.isWrapper; first | (rw [if_pos (by decide +kernel)]; kernel_rfl) | (rw [if_neg (by decide +kernel)]; exact ⟨rfl, rfl⟩))
    (fun os started H enc _ => lifted_FnTreeLess os started H enc)
end Go.Proofs.Ytkmdpmhaljieaaa
